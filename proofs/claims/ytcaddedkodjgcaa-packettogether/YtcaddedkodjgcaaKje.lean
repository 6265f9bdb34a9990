/-
  Rows of bytes that grow: what else stays as it was. The program's pack.Uint, pack.Bytes and putNumbers, told so.
-/
import Derived.Test.YtcaddedkodjgcaaPmo
import Derived.Test.YtcaddedkodjgcaaKon
import Derived.Test.YtcaddedkodjgcaaKja
import Derived.Test.YtcaddedkodjgcaaCwk
namespace Go.Proofs.Ytcaddedkodjgcaa
section
open Go.RowKit Pack
set_option linter.unusedVariables false
set_option linter.unusedSimpArgs false

/-- From v in w to v' in w': blocks other than v's own stay; v' lies in v's own block or in a new one. -/
structure Fr (v : Value) (w w' : World) (v' : Value) : Prop where
  size : w.heap.size ≤ w'.heap.size
  kept : ∀ g, g < w.heap.size → v.ownBlock ≠ some g → w'.heap[g]? = w.heap[g]?
  own : ∀ g, v'.ownBlock = some g → v.ownBlock = some g ∨ w.heap.size ≤ g
theorem Fr.refl (v : Value) (w : World) : Fr v w w v := ⟨Nat.le_refl _, fun _ _ _ => rfl, fun _ h => .inl h⟩
theorem Fr.trans {v v1 v2 : Value} {w w1 w2 : World} (h : Fr v w w1 v1) (k : Fr v1 w1 w2 v2) : Fr v w w2 v2 :=
  ⟨Nat.le_trans h.size k.size, fun g hg hn => (k.kept g (Nat.lt_of_lt_of_le hg h.size) (fun e => (h.own g e).elim hn (fun q => by omega))).trans (h.kept g hg hn),
    fun g e => (k.own g e).elim (h.own g) (fun q => .inr (Nat.le_trans h.size q))⟩
theorem Fr.below {v v' : Value} {w w1 w' : World} (h : Fr v w w1 v') (hb : Below w1.heap.size w1 w') : Fr v w w' v' :=
  ⟨Nat.le_trans h.size hb.size, fun g hg hn => (hb.block g (Nat.lt_of_lt_of_le hg h.size)).trans (h.kept g hg hn), h.own⟩
theorem Fr.alloc {v v' : Value} {w w' : World} (h : Fr v w w' v') (o : Obj) : Fr v w (w'.alloc o) v' := h.below ((Below.refl _ _).alloc (Nat.le_refl _) _)
/-- Something was laid ahead. -/
theorem Fr.ahead {v v' : Value} {w w1 w' : World} (h : Fr v w1 w' v') (hb : Below w.heap.size w w1) : Fr v w w' v' :=
  ⟨Nat.le_trans hb.size h.size, fun g hg hn => (h.kept g (Nat.lt_of_lt_of_le hg hb.size) hn).trans (hb.block g hg), fun g e => (h.own g e).imp id (Nat.le_trans hb.size)⟩
/-- A row of the call's own that other rows' growth left. -/
theorem Owns.fr {w w' : World} {base : Nat} {v x x' : Value} {l : BB} (h : Owns w base v l) (hf : Fr x w w' x') (hne : ∀ g, v.ownBlock = some g → x.ownBlock ≠ some g) : Owns w' base v l := by
  refine ⟨h.1, ?_⟩
  rcases h.2 with hn | ⟨g, cap, cur, hv, hg, hh, rest⟩
  · exact .inl hn
  · refine .inr ⟨g, cap, cur, hv, hg, ?_, rest⟩
    rw [hf.kept g (Array.getElem?_eq_some_iff.1 hh).1 (hne g (by rw [hv]; rfl))]
    exact hh
theorem wpList_append_bytesF {P : Program} {w : World} {ops : Array Oper} {rest : List Oper} {o : Oper} {a : Act} {Q : Exit → Act → World → Prop} (hgd : o.guard = none) (s x : Operand) (t : TypeId)
    (ho : o.op = .call { callee := .builtin .append, args := #[s, x], argTypes := #[t, t] })
    (base : Nat) (ht : P.underlying t = some (.slice 5)) (hinfo : (P.info? 5).map (fun i => (i.zero, i.size, i.bytes)) = some (some (.int .u8 0), 1, 1))
    (v : Value) (l : List (BitVec 8)) (hs : a.eval s = v) (hown : Owns w base v l)
    (v2 : Value) (l2 : List (BitVec 8)) (hx : a.eval x = v2) (hr : ReadsV w v2 l2) (hlen : l.length + l2.length ≤ 140737488355328) (hbase : base ≤ w.heap.size)
    (h : ∀ v' w', Owns w' base v' (l ++ l2) → Below base w w' → Fr v w w' v' → wpList P ops Q rest (a.put o.dst v') w') : wpList P ops Q (o :: rest) a w := by
  obtain ⟨i, hi, hz, hsize, hby⟩ := info_parts hinfo
  obtain ⟨ad, cap, rfl, hnil, _, _, hrd⟩ := hr
  cases ad with
  | none =>
    have hl2 : l2 = [] := by
      rcases hrd.2 with h | ⟨_, _, h, _⟩
      · exact h
      · cases h
    subst hl2
    have hc : cap = 0 := hnil rfl
    subst hc
    have hh := h v w (by simpa using hown) (Below.refl _ _) (Fr.refl _ _)
    exact wpList_append_own_none hgd s x t ho base 5 i 1 ht hi v l.length (bytesV l) hs hown hx hh
  | some ad =>
    obtain ⟨v', w', hr, q2, q3, q4, q5⟩ := run_append_own_at (P := P) w base t o.type 5 i _ 1 1 ht hi hz hsize hby rfl (by decide) v l.length (bytesV l) hown ad l2.length cap (bytesV l2) (by simp [bytesV_length])
      (fun j u hj => by
        obtain ⟨hj1, rfl⟩ := bytesV_getElem hj
        rcases hrd.2 with h0 | ⟨b, off, hb, hc⟩
        · subst h0; simp at hj1
        · cases hb
          rw [add_plain]
          exact hc j hj1) bytesV_one (by unfold maxLen; omega) (by omega) hbase
    refine wpList_plain hgd fun K hK => ?_
    unfold Oper.wp execOp
    simp only [ho, resolve, invoke, builtin, Sem.run_bind, Sem.run_pure, Result.andThen_ok, List.map_toArray, List.map_cons, List.map_nil, hs, hx, hr]
    refine hK _ _ (h v' w' ?_ ((Below.refl _ _).grown q3 hbase (fun k hk => (World.ownsRow.lt hown k hk).1)) ⟨q3.size, fun g hg hn => q3.block g hg (fun e => hn e.symm), fun g e => ?_⟩)
    · show w'.ownsRow base 5 1 v' (l ++ l2).length (bytesV (l ++ l2))
      rw [List.length_append, bytesV_append]; exact q2
    · rcases q5 with q5 | q5
      · exact .inl (by rw [← q5]; exact e)
      · right; rw [q5] at e; cases e; exact Nat.le_refl _

set_option maxRecDepth 100000 in
theorem uintF (base : Nat) (v : Value) (l : List (BitVec 8)) (n : Nat) (w : World) (hown : Owns w base v l) (hb : base ≤ w.heap.size) (hl : l.length ≤ 100000000000000) (hn : n < 18446744073709551616) :
    Calls Try.prog 40 #[v, .int .u64 n] w fun e w' => ∃ v', e = .returned v' ∧ Owns w' base v' (l ++ urow n) ∧ Below base w w' ∧ Fr v w w' v' := by
  have HO0 : Hid (Owns w base v l) := hown
  have HL : Hid ((l ++ urow n).length ≤ 100000000000010) := by show (l ++ urow n).length ≤ _; rw [List.length_append]; have := urow_len hn; omega
  clear hown
  go_enter Try.func40, Try.ntmps40
  go_wp2
  go_loopw [0, 1] (fun x k wr => ∃ (p : List (BitVec 8)) (m : Nat), k = .int .u64 m ∧ m < 18446744073709551616 ∧ Hid (p ++ urow m = l ++ urow n) ∧ Owns wr base x p ∧ Below base w wr ∧ Fr v w wr x) (fun _ k _ => (intOf k).toNat)
  case atStart => exact ⟨l, n, rfl, hn, rfl, HO0.out, Below.refl _ _, Fr.refl _ _⟩
  case round =>
    obtain ⟨p, m, rfl, hm, HE, hown, hB, hF⟩ := hrel
    have HO : Hid (Owns wr base u0 p) := hown
    have HB : Hid (Below base w wr) := hB
    have HF : Hid (Fr v w wr u0) := hF
    have hsz : base ≤ wr.heap.size := Nat.le_trans hb hB.size
    have HN : Hid (p.length + 1 ≤ 140737488355328) := by
      show p.length + 1 ≤ _
      have h1 := HL.out
      rw [← HE.out, List.length_append] at h1; omega
    clear hown hB HO0 hl hb hF
    by_cases hlt : m < 128
    · have HV : Hid (_ = _) := byte_low hlt
      go_wp2_with (at_builtin; refine wpList_append_bytesF rfl (.tmp 16) (.tmp 19) 27 rfl base Try.underlying27 Try.info5 _ p rfl (HO.out.alloc _) _ [byte m] rfl (reads_one' _ _ _ _ HV.out) HN.out (base_le hsz _) ?_; intro v1 w1 hown1 hg1 hf1; have O1 : Hid (Owns w1 base v1 (p ++ [byte m])) := hown1; have B1 : Hid (Below base w w1) := (HB.out.alloc hsz _).trans hg1; have F1 : Hid (Fr v w w1 v1) := HF.out.trans (hf1.ahead ((Below.refl _ _).alloc (Nat.le_refl _) _)); clear hown1 hg1 hf1)
      go_ret
      exact ⟨_, rfl, by rw [← HE.out, urow_low hlt]; exact O1.out, B1.out, F1.out⟩
    · have HV : Hid (_ = _) := byte_high m
      go_wp2_with (at_builtin; refine wpList_append_bytesF rfl (.tmp 7) (.tmp 12) 27 rfl base Try.underlying27 Try.info5 _ p rfl (HO.out.alloc _) _ [byte (m % 128 + 128)] rfl (reads_one' _ _ _ _ HV.out) HN.out (base_le hsz _) ?_; intro v1 w1 hown1 hg1 hf1; have O1 : Hid (Owns w1 base v1 (p ++ [byte (m % 128 + 128)])) := hown1; have B1 : Hid (Below base w w1) := (HB.out.alloc hsz _).trans hg1; have F1 : Hid (Fr v w w1 v1) := HF.out.trans (hf1.ahead ((Below.refl _ _).alloc (Nat.le_refl _) _)); clear hown1 hg1 hf1)
      go_roundw
      case rel => exact ⟨p ++ [byte (m % 128 + 128)], m / 128, by go_num, by omega, by show _ = _; rw [← HE.out, urow_high hlt]; simp, O1.out, B1.out, F1.out⟩
      case measure => simp [intOf]; omega
theorem fr_two {w w1 w2 w3 w4 : World} {g L c L2 C : Nat} {a : Option Addr} (h1 : Below w.heap.size w w1) (h2 : Below w1.heap.size w1 w2) (h3 : w2.grownBy w3 (some g)) (h4 : w3.grownBy w4 (some g)) (hg : g < w1.heap.size → a = some ⟨g, 0, none⟩) : Fr (.slice a L c) w w4 (.slice (some ⟨g, 0, none⟩) L2 C) := by
  have s1 := h1.size
  have s2 := h2.size
  have s3 := h3.size
  refine ⟨Nat.le_trans s1 (Nat.le_trans s2 (Nat.le_trans s3 h4.size)), fun k hk hn => ?_, fun k e => ?_⟩
  · have hkg : some k ≠ some g := fun e => by
      cases e
      have := hg (by omega)
      subst this
      exact hn rfl
    rw [h4.block k (by omega) hkg, h3.block k (by omega) hkg, h2.block k (by omega), h1.block k hk]
  · cases e
    by_cases q : g < w1.heap.size
    · left; rw [hg q]; rfl
    · right; show w.heap.size ≤ g; omega

set_option maxRecDepth 100000 in
set_option maxHeartbeats 400000 in
theorem bytesF_walk (base : Nat) (a sa : Option Addr) (L c n sc R : Nat) (l s : List (BitVec 8)) (w : World) (HO : Hid (Owns w base (.slice a L c) l)) (HS : Hid (ReadsV w (.slice sa n sc) s)) (HL : Hid (l.length = L)) (HN : Hid (s.length = n)) (HR : Hid ((urow n).length = R))
    (HB : Hid (base ≤ w.heap.size)) (hL : L ≤ 10000000000000) (hn : n ≤ 10000000000000) (hR : R ≤ 10) (hR0 : 0 < R) :
    Calls Try.prog 42 #[.slice a L c, .slice sa n sc] w fun e w' => ∃ v', e = .returned v' ∧ Owns w' base v' (l ++ (urow n ++ s)) ∧ Below base w w' ∧ Fr (.slice a L c) w w' v' := by
  have HN64 : Hid (n < 18446744073709551616) := by show _ < _; omega
  go_enter Try.func42, Try.ntmps42
  go_wp2_with (first
    | (go_at_call 40; refine (uint_new _ n _ rfl HN64.out).mono ?_; rw [HR.out]; rintro e w1 ⟨g1, c1, rfl, hg1, hr, hB⟩; have HG1 : Hid (w.heap.size ≤ g1) := hg1; have HR1 : Hid (ReadsV w1 (.slice (some ⟨g1, 0, none⟩) R c1) (urow n)) := hr; have HB1 : Hid (Below w.heap.size w w1) := hB; clear hg1 hr hB)
    | (go_at_call 54; refine (grow_eq _ base a L c (R + n) l _ (by omega) (HO.out.below HB1.out) (Nat.le_trans HB.out HB1.out.size) (by omega) (by omega)).mono ?_; rintro e w2 ⟨g, C, cur, rfl, hC1, hC2, hbg, hgl, hh, hcl, hct, hB⟩; have HGS : Hid (base ≤ g ∧ cur.length = C ∧ cur.take L = bytesV l) := ⟨hbg, hcl, hct⟩; have HH : Hid (w2.heap[g]? = some (.cells (List.toArray cur) 5 (0, 0))) := hh; have HB2 : Hid (Below w1.heap.size w1 w2) := hB; have HGL : Hid (g < w1.heap.size → a = some ⟨g, 0, none⟩) := hgl; have HNE : Hid (g1 ≠ g) := two_rows HO.out HG1.out HR1.out hR0 hgl; clear hbg hgl hh hcl hct hB)
    | (have := HH3; refine wpList_copy_bytes rfl (.tmp 37) (.tmp 38) 27 rfl Try.underlying27 Try.info5 _ _ _ rfl _ rfl (urow n) ((HR1.out.below HB2.out).grown HW3.out HNE.out) (by rw [HR.out]; omega) g L (by intro hpos; first | exact if_neg (by omega) | rfl) _ HH3.out (by rw [length_splice _ _ _ (by rw [bytesV_length, HN.out, HGS.out.2.1]; omega), HGS.out.2.1, HR.out]; omega) ?_; intro w4 HH4 hw4; have HW4 : Hid (w3.grownBy w4 (some g)) := hw4; clear hw4)
    | (have := HH; refine wpList_copy_bytes rfl (.tmp 31) (.tmp 32) 27 rfl Try.underlying27 Try.info5 _ _ _ rfl _ rfl s ((HS.out.below HB1.out).below HB2.out) (by rw [HN.out]; omega) g (L + R) (by rw [HN.out]; intro hpos; first | exact if_neg (by omega) | rfl) cur HH.out (by rw [HN.out, HGS.out.2.1]; omega) ?_; intro w3 HH3 hw3; have HW3 : Hid (w2.grownBy w3 (some g)) := hw3; clear hw3))
  all_goals go_ret
  all_goals first
    | exact ⟨_, rfl, own_final HL.out HR.out HN.out HGS.out.1 hC1 hC2 HGS.out.2.1 HGS.out.2.2 HH4.out, below_two HB.out HB1.out HB2.out HW3.out HW4.out HGS.out.1, fr_two HB1.out HB2.out HW3.out HW4.out HGL.out⟩
    | exact ⟨_, rfl, own_final HL.out HR.out HN.out HGS.out.1 (by omega) (by omega) (by rw [HGS.out.2.1]; assumption) HGS.out.2.2 HH4.out, below_two HB.out HB1.out HB2.out HW3.out HW4.out HGS.out.1, fr_two HB1.out HB2.out HW3.out HW4.out HGL.out⟩


theorem bytesF (base : Nat) (v x : Value) (l s : List (BitVec 8)) (w : World) (ho : Owns w base v l) (hr : ReadsV w x s) (hb : base ≤ w.heap.size) (hl : l.length ≤ 10000000000000) (hs : s.length ≤ 10000000000000) :
    Calls Try.prog 42 #[v, x] w fun e w' => ∃ v', e = .returned v' ∧ Owns w' base v' (l ++ (urow s.length ++ s)) ∧ Below base w w' ∧ Fr v w w' v' := by
  have hv : ∃ a c, v = .slice a l.length c := by
    unfold Owns at ho
    rcases ho.2 with ⟨rfl, h0⟩ | ⟨g, cap, _, rfl, _⟩
    · exact ⟨none, 0, by rw [h0]⟩
    · exact ⟨_, cap, rfl⟩
  obtain ⟨a, c, rfl⟩ := hv
  have hr' := hr
  obtain ⟨sa, sc, rfl, _⟩ := hr'
  have h64 : s.length < 18446744073709551616 := by omega
  exact bytesF_walk base a sa l.length c s.length sc _ l s w ho hr rfl rfl rfl hb hl hs (urow_len h64) (urow_pos _)


set_option maxRecDepth 100000 in
set_option maxHeartbeats 800000 in
/-- The program's putNumbers. -/
theorem numsF (base : Nat) (v : Value) (acc : BB) (a : Option Addr) (c : Nat) (l : List Int) (w : World) (ho : Owns w base v acc) (hb : base ≤ w.heap.size) (hI : IlV w a c l) (hne : ∀ x, a = some x → v.ownBlock ≠ some x.block) (h0 : ∀ i, i < l.length → 0 ≤ l.getD i 0) (hl : l.length ≤ 100000) (hacc : acc.length ≤ 1000000000000) : Calls Try.prog 24 #[v, .slice a l.length c] w fun e w' => ∃ v', e = .returned v' ∧ Owns w' base v' (acc ++ numsB l) ∧ Below base w w' ∧ Fr v w w' v' := by
  have h1 := hI.cap1
  have h2 := hI.cap2
  have HC : Hid (∀ wr u i, Fr v w wr u → i < l.length → ∃ (g o k : Nat), a = some ⟨g, o, none⟩ ∧ wr.cell? ⟨g, o + i, none⟩ = some (.int .i64 (k : Int)) ∧ l.getD i 0 = k ∧ k ≤ 9223372036854775807) := fun wr u i q hi => by
    obtain ⟨b, o, q1, q2, q3⟩ := hI.at_ hi
    have q4 := h0 i hi
    have q5 := hI.inr i hi
    unfold InR at q5
    refine ⟨b, o, (l.getD i 0).toNat, q1, ?_, by omega, by omega⟩
    rw [show (((l.getD i 0).toNat : Nat) : Int) = l.getD i 0 by omega]
    rw [cell_kept (q.kept b q3 (hne _ q1)) _]
    exact q2
  have HS : Hid (∀ i, i < l.length → acc ++ numsB (l.take (i + 1)) = (acc ++ numsB (l.take i)) ++ urI (l.getD i 0)) := fun i hi => by show _ = _; rw [numsB_take hi, List.append_assoc]
  have HT : Hid (acc ++ numsB (l.take l.length) = acc ++ numsB l) := by show _ = _; rw [List.take_length]
  have HL : Hid (∀ i, i ≤ l.length → (acc ++ numsB (l.take i)).length ≤ 2000000000000) := fun i hi => by have := numsB_take_len (l := l) (fun j hj => by have := hI.inr j hj; unfold InR at this; omega) i hi; rw [List.length_append]; omega
  have HO0 : Hid (Owns w base v (acc ++ numsB (l.take 0))) := by
    show Owns _ _ _ _
    simpa [numsB] using ho
  generalize l.length = n at *
  clear hI h0 hne ho hacc
  go_enter Try.func24, Try.ntmps24
  go_wp2
  go_loopw [0, 9] (fun x y wr => ∃ (i : Nat), i ≤ n ∧ y = .int .i64 i ∧ Owns wr base x (acc ++ numsB (l.take i)) ∧ Below base w wr ∧ Fr v w wr x) (fun _ y _ => n - (intOf y).toNat)
  case atStart => exact ⟨0, Nat.zero_le _, rfl, HO0.out, Below.refl _ _, Fr.refl _ _⟩
  case round =>
    obtain ⟨i, hi, rfl, hown, hB, hF⟩ := hrel
    have HO : Hid (Owns wr base u0 (acc ++ numsB (l.take i))) := hown
    have HB : Hid (Below base w wr) := hB
    have HF : Hid (Fr v w wr u0) := hF
    have HZ : Hid (base ≤ wr.heap.size) := Nat.le_trans hb hB.size
    clear hown hB hF HO0
    by_cases hlt : i < n
    · obtain ⟨g, o, k, rfl, x1, x2, x3⟩ := HC.out wr u0 i HF.out hlt
      have HK : Hid (acc ++ numsB (l.take (i + 1)) = (acc ++ numsB (l.take i)) ++ urow k) := by show _ = _; rw [HS.out i hlt, x2]; rfl
      have HM : Hid ((acc ++ numsB (l.take i)).length ≤ 100000000000000) := by show _ ≤ _; have := HL.out i hi; omega
      have HQ : Hid (k < 18446744073709551616) := by show _ < _; omega
      have hk : (k : Int) < 18446744073709551616 := by omega
      have HU : Hid (∀ x : Int, x = (k : Int) → Calls Try.prog 40 #[u0, .int .u64 x] wr fun e w' => ∃ v', e = .returned v' ∧ Owns w' base v' ((acc ++ numsB (l.take i)) ++ urow k) ∧ Below base wr w' ∧ Fr u0 wr w' v') := fun x q => by subst q; exact uintF base _ _ k _ HO.out HZ.out HM.out HQ.out
      clear HC HS HT HL x2
      go_wp2_with (go_at_call 40; refine (HU.out _ (by go_num)).mono ?_; rintro e w1 ⟨v1, rfl, ho, qB, qF⟩; have O2 : Hid (Owns w1 base v1 ((acc ++ numsB (l.take i)) ++ urow k)) := ho; have B2 : Hid (Below base w w1) := HB.out.trans qB; have F2 : Hid (Fr v w w1 v1) := HF.out.trans qF; clear ho qB qF)
      go_roundw
      case rel => exact ⟨i + 1, by omega, by go_num, by rw [HK.out]; exact O2.out, B2.out, F2.out⟩
      case measure => simp [intOf]; omega
    · obtain rfl : i = n := by omega
      have HE : Hid (Owns wr base u0 (acc ++ numsB l)) := by rw [← HT.out]; exact HO.out
      clear HC HS HT HL HO
      go_wp2
      go_ret
      exact ⟨_, rfl, HE.out, HB.out, HF.out⟩
end
section
open Go.RowKit Pack Crc
set_option linter.unusedVariables false
set_option linter.unusedSimpArgs false

/-- The lowest bytes of a word, the lowest first. -/
def leB : Nat → BitVec 32 → BB
  | 0, _ => []
  | k + 1, s => s.setWidth 8 :: leB k (s >>> 8)
theorem leB_four (s : BitVec 32) : leB 4 s = fourB s := by
  unfold fourB
  simp only [leB, ← BitVec.shiftRight_add]
theorem W_shift (s : BitVec 32) : W (s >>> 8) = W s / 256 := by
  unfold W
  rw [BitVec.toNat_ushiftRight, Nat.shiftRight_eq_div_pow]
  omega
set_option maxRecDepth 100000 in
set_option maxHeartbeats 800000 in
theorem putSum_any (base : Nat) (v : Value) (l : BB) (w : World) (ho : Owns w base v l) (hb : base ≤ w.heap.size) (hl : l.length ≤ 1000000000) : Calls Try.prog 26 #[v] w fun e w' => ∃ v', e = .returned v' ∧ Owns w' base v' (sealB l) ∧ Below base w w' := by
  have HO0 : Hid (Owns w base v l) := ho
  have HS : Hid (Calls Try.prog 43 #[v] w fun e w' => e = .returned (.int .u32 (W (Crc.sum l))) ∧ w' = w) := sum_row v l w (ReadsV.of_own ho)
  have HE0 : Hid (l ++ leB 4 (Crc.sum l) = sealB l) := by show _ = _; rw [leB_four]; rfl
  have HLn : Hid ((sealB l).length ≤ 1000000004) := by show _ ≤ _; rw [sealB_len]; omega
  generalize sealB l = z at *
  generalize Crc.sum l = s at *
  clear ho hl
  go_enter Try.func26, Try.ntmps26
  go_wp2_with (go_at_call 43; refine HS.out.mono ?_; rintro e w1 ⟨rfl, q⟩; obtain rfl := q.symm)
  go_loopw [0, 3, 6] (fun x u y wr => ∃ (i : Nat) (p : BB) (t : BitVec 32), i ≤ 4 ∧ y = .int .i64 i ∧ u = .int .u32 (W t) ∧ Hid (p ++ leB (4 - i) t = z) ∧ Owns wr base x p ∧ Below base w wr) (fun _ _ y _ => 4 - (intOf y).toNat)
  case atStart => exact ⟨0, l, s, Nat.zero_le _, rfl, rfl, HE0.out, HO0.out, Below.refl _ _⟩
  case round =>
    obtain ⟨i, p, t, hi, rfl, rfl, HE, hown, hB⟩ := hrel
    have HO : Hid (Owns wr base u0 p) := hown
    have HB : Hid (Below base w wr) := hB
    have hsz : base ≤ wr.heap.size := Nat.le_trans hb hB.size
    clear hown hB HO0 HS HE0
    by_cases hlt : i < 4
    · obtain ⟨j, hj⟩ : ∃ j, 4 - i = j + 1 := ⟨3 - i, by omega⟩
      have HE2 : Hid ((p ++ [t.setWidth 8]) ++ leB (4 - (i + 1)) (t >>> 8) = z) := by
        show _ = _
        rw [← HE.out, hj, show 4 - (i + 1) = j by omega]
        simp [leB]
      have HN : Hid (p.length + [t.setWidth 8].length ≤ 140737488355328) := by
        show _ ≤ _
        have h1 := HLn.out
        rw [← HE.out, List.length_append] at h1
        simp only [List.length_cons, List.length_nil]
        omega
      obtain ⟨hs1, hs2⟩ := W_range t
      have HV : Hid (∀ x, x = W t % 256 → x = B (t.setWidth 8)) := fun x q => q.trans (four0 t)
      have HSh : Hid (W (t >>> 8) = W t / 256) := W_shift t
      clear HE hj
      generalize t.setWidth 8 = tb at *
      generalize hT2 : t >>> 8 = t2 at *
      generalize W t = wt at *
      go_wp2_with (at_builtin; refine wpList_append_bytes rfl (.tmp 8) (.tmp 11) 27 rfl base Try.underlying27 Try.info5 _ p rfl (HO.out.alloc _) _ [tb] rfl (reads_one' _ _ _ _ (HV.out _ (by go_num))) HN.out (base_le hsz _) ?_; intro v1 w1 hown1 hg1; have O1 : Hid (Owns w1 base v1 (p ++ [tb])) := hown1; have B1 : Hid (Below base w w1) := (HB.out.alloc hsz _).trans hg1; clear hown1 hg1)
      go_roundw
      case rel => exact ⟨i + 1, p ++ [tb], t2, by omega, by go_num, by rw [HSh.out]; try go_num, HE2, O1.out, B1.out⟩
      case measure => simp [intOf]; omega
    · obtain rfl : i = 4 := by omega
      have HZ : Hid (Owns wr base u0 z) := by
        show Owns _ _ _ _
        rw [← HE.out]
        simpa [leB] using HO.out
      clear HE HO
      go_wp2
      go_ret
      exact ⟨_, rfl, HZ.out, HB.out⟩

theorem own_lt {w : World} {base : Nat} {v : Value} {l : BB} (h : Owns w base v l) {g : Nat} (hg : w.heap.size ≤ g) : v.ownBlock ≠ some g := fun e => by
  have := (World.ownsRow.lt h g e).2
  omega
theorem own_ge {w : World} {base : Nat} {v : Value} {l : BB} (h : Owns w base v l) {g : Nat} (hg : g < base) : v.ownBlock ≠ some g := fun e => by
  have := (World.ownsRow.lt h g e).1
  omega
/-- A message's numbers, from a new row, behind what is there. -/
theorem headF {w wy : World} {base : Nat} {v : Value} {acc : BB} {m : Ms} (ho : Owns w base v acc) (hb : base ≤ w.heap.size) (hacc : acc.length ≤ 1000000000) (h : msOk m = true) {k : Int} (hk : k = if m.ok then 1 else 0) {n g : Nat} (hn : n = m.ents.length) (hg : g = w.heap.size) (e : TypeId) (hy : wy = (w.alloc (.cells #[.int .i64 m.kind, .int .i64 m.grp, .int .i64 m.term, .int .i64 m.at_, .int .i64 m.att, .int .i64 m.commit, .int .i64 k, .int .i64 (n : Int)] e)).drew) : Calls Try.prog 24 #[v, .slice (some ⟨g, 0, none⟩) 8 8] wy fun e w' => ∃ v', e = .returned v' ∧ Owns w' base v' (acc ++ numsB (headL m)) ∧ Below base w w' ∧ Fr v w w' v' := by
  subst hk hn hg hy
  have hb2 : Below w.heap.size w (w.alloc (.cells #[.int .i64 m.kind, .int .i64 m.grp, .int .i64 m.term, .int .i64 m.at_, .int .i64 m.att, .int .i64 m.commit, .int .i64 (if m.ok then 1 else 0), .int .i64 (m.ents.length : Int)] e)).drew := ((Below.refl _ _).alloc (Nat.le_refl _) _).drew
  have := numsF base v acc _ _ (headL m) _ (ho.below hb2) (Nat.le_trans hb hb2.size) ((ints_new w (headL m) e (fun i hi => (head_in h i hi).1) (by show 8 ≤ 100; omega) (by simp [headL])).below ((Below.refl _ _).drew)) (fun x hx => by cases hx; exact own_lt ho (Nat.le_refl _)) (fun i hi => (head_in h i hi).2) (by show 8 ≤ 100000; omega) (by omega)
  refine this.mono fun e w' ⟨v', h1, h2, h3, h4⟩ => ⟨v', h1, h2, (hb2.mono hb).trans h3, h4.ahead hb2⟩
/-- One number, from a new row, behind what is there; w is the world ahead of the entry's box, w1 the one behind. -/
theorem oneF {w w1 wy : World} {base : Nat} {v : Value} {acc : BB} (t : Int) (ho : Owns w base v acc) (hb : base ≤ w.heap.size) (hacc : acc.length ≤ 1000000000) (hw : Below w.heap.size w w1) {g : Nat} (hg : g = w1.heap.size) (h0 : 0 ≤ t) (h1 : t ≤ 1099511627776) (e : TypeId) (hy : wy = (w1.alloc (.cells #[.int .i64 t] e)).drew) : Calls Try.prog 24 #[v, .slice (some ⟨g, 0, none⟩) 1 1] wy fun e w' => ∃ v', e = .returned v' ∧ Owns w' base v' (acc ++ numsB [t]) ∧ Below base w w' ∧ Fr v w w' v' ∧ Fr v w1 w' v' := by
  subst hg hy
  have hr : ∀ i, i < [t].length → InR ([t].getD i 0) ∧ 0 ≤ [t].getD i 0 := fun i hi => by
    have : i = 0 := by simpa using hi
    subst this
    unfold InR
    show (_ ≤ t ∧ t ≤ _) ∧ 0 ≤ t
    omega
  have hb3 : Below w1.heap.size w1 (w1.alloc (.cells #[.int .i64 t] e)).drew := ((Below.refl _ _).alloc (Nat.le_refl _) _).drew
  have hb2 : Below w.heap.size w (w1.alloc (.cells #[.int .i64 t] e)).drew := hw.trans (hb3.mono hw.size)
  have := numsF base v acc _ _ [t] _ (ho.below hb2) (Nat.le_trans hb hb2.size) ((ints_new w1 [t] e (fun i hi => (hr i hi).1) (by show 1 ≤ 100; omega) (by simp)).below ((Below.refl _ _).drew)) (fun x hx => by cases hx; exact own_lt ho hw.size) (fun i hi => (hr i hi).2) (by show 1 ≤ 100000; omega) (by omega)
  exact this.mono fun e w' ⟨v', h1, h2, h3, h4⟩ => ⟨v', h1, h2, (hb2.mono hb).trans h3, h4.ahead hb2, h4.ahead hb3⟩
set_option maxRecDepth 100000 in
set_option maxHeartbeats 2000000 in
theorem putMsg_any {w : World} {base : Nat} {v : Value} {acc : BB} {ax : Ax} {m : Ms} {P : Nat → Prop} (ho : Owns w base v acc) (hb : base ≤ w.heap.size) (hacc : acc.length ≤ 100000000) (hx : MsV w P ax m) (hP : ∀ g, P g → g < w.heap.size → v.ownBlock ≠ some g) (hk : msOk m = true) : Calls Try.prog 25 #[v, msA ax m] w fun e w' => ∃ v', e = .returned v' ∧ Owns w' base v' (acc ++ msB m) ∧ Below base w w' ∧ Fr v w w' v' := by
  obtain ⟨_, _, _, _, _, _, g8, g9, hall⟩ := msOk_parts hk
  have HS := one_box w ax m
  have hsz : (w.alloc (Obj.cells #[.int .i64 m.kind, .int .i64 m.grp, .int .i64 m.frm, .int .i64 m.to, .int .i64 m.term, .int .i64 m.at_, .int .i64 m.att, .int .i64 m.commit, .bool m.ok, .slice ax.ea m.ents.length ax.ec, .slice ax.da m.data.length ax.dc] 51)).heap.size = w.heap.size + 1 := size_alloc _ _
  have hp : w.heap.size < (w.alloc (Obj.cells #[.int .i64 m.kind, .int .i64 m.grp, .int .i64 m.frm, .int .i64 m.to, .int .i64 m.term, .int .i64 m.at_, .int .i64 m.att, .int .i64 m.commit, .bool m.ok, .slice ax.ea m.ents.length ax.ec, .slice ax.da m.data.length ax.dc] 51)).heap.size := by omega
  obtain ⟨p0, p1, p2, p3, p4, p5, p6, p7, p8, p9, p10, pf⟩ := id HS.1
  obtain ⟨k, hkk⟩ : ∃ k : Int, (if m.ok = true then (1 : Int) else 0) = k := ⟨_, rfl⟩
  have HTr : Hid (∀ wr, Calls Try.prog 41 #[.bool m.ok] wr fun e w' => e = .returned (.int .i64 k) ∧ w' = wr) := fun wr => by have := truth_any m.ok wr; rw [hkk] at this; exact this
  have ho1 : Owns (w.alloc (Obj.cells #[.int .i64 m.kind, .int .i64 m.grp, .int .i64 m.frm, .int .i64 m.to, .int .i64 m.term, .int .i64 m.at_, .int .i64 m.att, .int .i64 m.commit, .bool m.ok, .slice ax.ea m.ents.length ax.ec, .slice ax.da m.data.length ax.dc] 51)) base v acc := ho.below HS.2
  have hb1 : base ≤ (w.alloc (Obj.cells #[.int .i64 m.kind, .int .i64 m.grp, .int .i64 m.frm, .int .i64 m.to, .int .i64 m.term, .int .i64 m.at_, .int .i64 m.att, .int .i64 m.commit, .bool m.ok, .slice ax.ea m.ents.length ax.ec, .slice ax.da m.data.length ax.dc] 51)).heap.size := by omega
  have HH : Hid (∀ (wy : World) (n : Nat) (e : TypeId), wy = ((w.alloc (Obj.cells #[.int .i64 m.kind, .int .i64 m.grp, .int .i64 m.frm, .int .i64 m.to, .int .i64 m.term, .int .i64 m.at_, .int .i64 m.att, .int .i64 m.commit, .bool m.ok, .slice ax.ea m.ents.length ax.ec, .slice ax.da m.data.length ax.dc] 51)).alloc (.cells #[.int .i64 m.kind, .int .i64 m.grp, .int .i64 m.term, .int .i64 m.at_, .int .i64 m.att, .int .i64 m.commit, .int .i64 k, .int .i64 (n : Int)] e)).drew → n = m.ents.length → Calls Try.prog 24 #[v, .slice (some ⟨w.heap.size + 1, 0, none⟩) 8 8] wy fun e w' => ∃ v', e = .returned v' ∧ Owns w' base v' (acc ++ numsB (headL m)) ∧ Below base (w.alloc (Obj.cells #[.int .i64 m.kind, .int .i64 m.grp, .int .i64 m.frm, .int .i64 m.to, .int .i64 m.term, .int .i64 m.at_, .int .i64 m.att, .int .i64 m.commit, .bool m.ok, .slice ax.ea m.ents.length ax.ec, .slice ax.da m.data.length ax.dc] 51)) w' ∧ Fr v (w.alloc (Obj.cells #[.int .i64 m.kind, .int .i64 m.grp, .int .i64 m.frm, .int .i64 m.to, .int .i64 m.term, .int .i64 m.at_, .int .i64 m.att, .int .i64 m.commit, .bool m.ok, .slice ax.ea m.ents.length ax.ec, .slice ax.da m.data.length ax.dc] 51)) w' v') := fun wy n e q1 q2 => headF ho1 hb1 (by omega) hk hkk.symm q2 hsz.symm e q1
  have HX : Hid (∀ wr u, Fr v (w.alloc (Obj.cells #[.int .i64 m.kind, .int .i64 m.grp, .int .i64 m.frm, .int .i64 m.to, .int .i64 m.term, .int .i64 m.at_, .int .i64 m.att, .int .i64 m.commit, .bool m.ok, .slice ax.ea m.ents.length ax.ec, .slice ax.da m.data.length ax.dc] 51)) wr u → Xc wr w.heap.size ax m ∧ w.heap.size + 1 ≤ wr.heap.size) := fun wr u q => by
    have hn := own_lt ho (Nat.le_refl _)
    exact ⟨HS.1.kept (q.kept _ hp hn), by have := q.size; omega⟩
  have HM0 : Hid (∀ wr u, Fr v (w.alloc (Obj.cells #[.int .i64 m.kind, .int .i64 m.grp, .int .i64 m.frm, .int .i64 m.to, .int .i64 m.term, .int .i64 m.at_, .int .i64 m.att, .int .i64 m.commit, .bool m.ok, .slice ax.ea m.ents.length ax.ec, .slice ax.da m.data.length ax.dc] 51)) wr u → MsV wr (fun g => g < w.heap.size) ax m) := fun wr u q => hx.kept fun g hg hlt => ⟨(q.kept g (by omega) (hP g hg hlt)).trans (Below.heap_alloc _ _ _ hlt), hlt⟩
  have HE : Hid (∀ wr u, Fr v (w.alloc (Obj.cells #[.int .i64 m.kind, .int .i64 m.grp, .int .i64 m.frm, .int .i64 m.to, .int .i64 m.term, .int .i64 m.at_, .int .i64 m.att, .int .i64 m.commit, .bool m.ok, .slice ax.ea m.ents.length ax.ec, .slice ax.da m.data.length ax.dc] 51)) wr u → ∀ i, i < m.ents.length → ∃ (g o : Nat) (ka : Option Addr) (kc kn : Nat) (t : Int), ax.ea = some ⟨g, o, none⟩ ∧ g < w.heap.size ∧ t = (m.ents.getD i zE).1 ∧ (0 ≤ t ∧ t ≤ 1099511627776) ∧ (wr.cell? ⟨g, o + i * 2, none⟩ = some (.int .i64 t) ∧ wr.cell? ⟨g, o + i * 2 + 1, none⟩ = some (.slice ka kn kc)) ∧ Hid (∀ w2 u2, Fr v (w.alloc (Obj.cells #[.int .i64 m.kind, .int .i64 m.grp, .int .i64 m.frm, .int .i64 m.to, .int .i64 m.term, .int .i64 m.at_, .int .i64 m.att, .int .i64 m.commit, .bool m.ok, .slice ax.ea m.ents.length ax.ec, .slice ax.da m.data.length ax.dc] 51)) w2 u2 → ReadsV w2 (.slice ka kn kc) (m.ents.getD i zE).2) ∧ Hid ((m.ents.getD i zE).2.length ≤ 65536)) := fun wr u q i hi => by
    obtain ⟨b, o, u0, u1, ⟨q1, qp⟩, q2, q3, q4⟩ := hx.e.2.2.2 i hi
    obtain ⟨ka, kc, rfl, rfl, r1, r2, r3⟩ := id q4
    have h2 := entOk_parts (List.all_eq_true.1 hall (m.ents.getD i zE) (by rw [List.getD_eq_getElem?_getD, List.getElem?_eq_getElem hi]; exact List.getElem_mem _))
    have hlt := World.block_lt_of_cell? _ _ q2
    have hlt : b < w.heap.size := hlt
    have hkb : wr.heap[b]? = w.heap[b]? := (q.kept b (by omega) (hP b qp hlt)).trans (Below.heap_alloc _ _ _ hlt)
    refine ⟨b, o, ka, kc, _, _, q1, hlt, rfl, ⟨Int.le_trans (by decide) h2.1, h2.2.1⟩, ⟨(cell_kept hkb _).trans q2, (cell_kept hkb _).trans q3⟩, fun w2 u2 r => ?_, h2.2.2⟩
    obtain ⟨ka2, kc2, s1, s2, s3, _⟩ := q4.kept (w' := w2) (Q := fun _ => True) (fun g hg hl => ⟨(r.kept g (by omega) (hP g hg hl)).trans (Below.heap_alloc _ _ _ hl), trivial⟩)
    rw [s2]
    exact s3
  have HT : Hid (∀ i, i < m.ents.length → (acc ++ numsB (headL m)) ++ (m.ents.take (i + 1)).flatMap entB = (((acc ++ numsB (headL m)) ++ (m.ents.take i).flatMap entB) ++ numsB [(m.ents.getD i zE).1]) ++ (urow (m.ents.getD i zE).2.length ++ (m.ents.getD i zE).2)) := fun i hi => by show _ = _; rw [flat_take hi]; unfold entB numsB; simp
  have HL : Hid (∀ i, i ≤ m.ents.length → ((acc ++ numsB (headL m)) ++ (m.ents.take i).flatMap entB).length ≤ 200000000) := fun i hi => by have h1 := flat_take_len hall i hi; have h2 := head_len hk; rw [List.length_append, List.length_append]; omega
  have HZ : Hid (acc ++ msB m = ((acc ++ numsB (headL m)) ++ (m.ents.take m.ents.length).flatMap entB) ++ (urow m.data.length ++ m.data)) := by show _ = _; unfold msB; rw [List.take_length]; simp only [List.append_assoc]
  have HD : Hid (∀ wr u, Fr v (w.alloc (Obj.cells #[.int .i64 m.kind, .int .i64 m.grp, .int .i64 m.frm, .int .i64 m.to, .int .i64 m.term, .int .i64 m.at_, .int .i64 m.att, .int .i64 m.commit, .bool m.ok, .slice ax.ea m.ents.length ax.ec, .slice ax.da m.data.length ax.dc] 51)) wr u → ReadsV wr (.slice ax.da m.data.length ax.dc) m.data) := fun wr u q => (HM0.out wr u q).d
  have HD2 : Hid (m.data.length ≤ 65536) := g9
  have HEnd : Hid (∀ w' v', Below base (w.alloc (Obj.cells #[.int .i64 m.kind, .int .i64 m.grp, .int .i64 m.frm, .int .i64 m.to, .int .i64 m.term, .int .i64 m.at_, .int .i64 m.att, .int .i64 m.commit, .bool m.ok, .slice ax.ea m.ents.length ax.ec, .slice ax.da m.data.length ax.dc] 51)) w' → Fr v (w.alloc (Obj.cells #[.int .i64 m.kind, .int .i64 m.grp, .int .i64 m.frm, .int .i64 m.to, .int .i64 m.term, .int .i64 m.at_, .int .i64 m.att, .int .i64 m.commit, .bool m.ok, .slice ax.ea m.ents.length ax.ec, .slice ax.da m.data.length ax.dc] 51)) w' v' → Below base w w' ∧ Fr v w w' v') := fun w' v' q1 q2 => ⟨(HS.2.mono hb).trans q1, q2.ahead HS.2⟩
  have c1 := hx.e.cap1
  have c2 := hx.e.cap2
  unfold msA
  clear hx hk HS hall g8 g9 hP HM0 ho ho1 hkk hacc
  go_enter Try.func25, Try.ntmps25
  go_wp2
  go_region_held3 (fun w' => w'.cell? ⟨w.heap.size, 0, none⟩ = some (.int .i64 m.kind) ∧ w'.cell? ⟨w.heap.size, 1, none⟩ = some (.int .i64 m.grp) ∧ w'.cell? ⟨w.heap.size, 4, none⟩ = some (.int .i64 m.term) ∧ w'.cell? ⟨w.heap.size, 5, none⟩ = some (.int .i64 m.at_) ∧ w'.cell? ⟨w.heap.size, 6, none⟩ = some (.int .i64 m.att) ∧ w'.cell? ⟨w.heap.size, 7, none⟩ = some (.int .i64 m.commit) ∧ w'.cell? ⟨w.heap.size, 8, none⟩ = some (.bool m.ok) ∧ w'.cell? ⟨w.heap.size, 9, none⟩ = some (.slice ax.ea m.ents.length ax.ec)) (go_keep) (first
    | (go_at_call 41; refine (HTr.out _).mono ?_; rintro e w1 ⟨rfl, rfl⟩)
    | (go_at_call 24; refine (HH.out _ _ _ rfl rfl).mono ?_; rintro e w1 ⟨v1, rfl, ho, qB, qF⟩; have HO : Hid (Owns w1 base v1 (acc ++ numsB (headL m))) := ho; have HB1 : Hid (Below base (w.alloc (Obj.cells #[.int .i64 m.kind, .int .i64 m.grp, .int .i64 m.frm, .int .i64 m.to, .int .i64 m.term, .int .i64 m.at_, .int .i64 m.att, .int .i64 m.commit, .bool m.ok, .slice ax.ea m.ents.length ax.ec, .slice ax.da m.data.length ax.dc] 51)) w1) := qB; have HF1 : Hid (Fr v (w.alloc (Obj.cells #[.int .i64 m.kind, .int .i64 m.grp, .int .i64 m.frm, .int .i64 m.to, .int .i64 m.term, .int .i64 m.at_, .int .i64 m.att, .int .i64 m.commit, .bool m.ok, .slice ax.ea m.ents.length ax.ec, .slice ax.da m.data.length ax.dc] 51)) w1 v1) := qF; clear ho qB qF; obtain ⟨⟨r0, r1, r2, r3, r4, r5, r6, r7, r8, r9, r10, rf⟩, hz1⟩ := HX.out w1 v1 HF1.out))
  go_wp2
  clear p0 p1 p2 p3 p4 p5 p6 p7 p8 p9 p10 pf r0 r1 r2 r3 r4 r5 r6 r7 r8 r10 rf HTr HH hp hsz
  generalize (w.alloc _) = wb at *
  generalize acc ++ numsB (headL m) = hd at *
  generalize ax.ea = ea at *
  generalize ax.ec = ec at *
  generalize hn : m.ents.length = n at *
  generalize hm : m.data.length = nd at *
  go_loopw [0, 31] (fun x y wr => ∃ (i : Nat), i ≤ n ∧ y = .int .i64 i ∧ Owns wr base x (hd ++ (m.ents.take i).flatMap entB) ∧ Below base wb wr ∧ Fr v wb wr x) (fun _ y _ => n - (intOf y).toNat)
  case atStart => exact ⟨0, Nat.zero_le _, rfl, by simpa using HO.out, HB1.out, HF1.out⟩
  case round =>
    clear HO HB1 HF1 r9
    obtain ⟨i, hi, rfl, hown, hB, hF⟩ := hrel
    have HO : Hid (Owns wr base u0 (hd ++ (m.ents.take i).flatMap entB)) := hown
    have HB : Hid (Below base wb wr) := hB
    have HF : Hid (Fr v wb wr u0) := hF
    obtain ⟨⟨x0, x1, x2, x3, x4, x5, x6, x7, x8, x9, x10, xf⟩, hz⟩ := HX.out wr u0 hF
    have HZb : Hid (base ≤ wr.heap.size) := Nat.le_trans hb (Nat.le_trans (Nat.le_succ _) hz)
    clear hown hB hF x0 x1 x2 x3 x4 x5 x6 x7 x8 xf
    by_cases hlt : i < n
    · obtain ⟨g, o, ka, kc, kn, t, rfl, hg, ht, ht2, ⟨y0, y1⟩, hW, hD⟩ := HE.out wr u0 HF.out i hlt
      have hgz : g < wr.heap.size := by omega
      have hne : g ≠ wr.heap.size := by omega
      have hl0 := HL.out i hi
      have HG : Hid (hd ++ (m.ents.take (i + 1)).flatMap entB = ((hd ++ (m.ents.take i).flatMap entB) ++ numsB [t]) ++ (urow (m.ents.getD i zE).2.length ++ (m.ents.getD i zE).2)) := by show _ = _; rw [ht]; exact HT.out i hlt
      have hl1 : (numsB [t]).length ≤ 10 := nums_len (l := [t]) fun x hx => by simp only [List.mem_cons, List.not_mem_nil, or_false] at hx; subst hx; omega
      have HM2 : Hid (((hd ++ (m.ents.take i).flatMap entB) ++ numsB [t]).length ≤ 10000000000000) := by show _ ≤ _; rw [List.length_append]; omega
      have HM3 : Hid ((m.ents.getD i zE).2.length ≤ 10000000000000) := by show _ ≤ _; have := hD.out; omega
      have HC2 : Hid (Cell2 (wr.alloc (.cells #[.int .i64 t, .slice ka kn kc] 48)) wr.heap.size (.int .i64 t) (.slice ka kn kc)) := Cell2.new _ _ _ _
      have hob : u0.ownBlock ≠ some wr.heap.size := own_lt HO.out (Nat.le_refl _)
      have HN : Hid (∀ (wy : World) (e : TypeId), wy = ((wr.alloc (.cells #[.int .i64 t, .slice ka kn kc] 48)).alloc (.cells #[.int .i64 t] e)).drew → Calls Try.prog 24 #[u0, .slice (some ⟨wr.heap.size + 1, 0, none⟩) 1 1] wy fun e w' => ∃ v', e = .returned v' ∧ Owns w' base v' ((hd ++ (m.ents.take i).flatMap entB) ++ numsB [t]) ∧ Below base wr w' ∧ Fr u0 wr w' v' ∧ Cell2 w' wr.heap.size (.int .i64 t) (.slice ka kn kc) ∧ v'.ownBlock ≠ some wr.heap.size) := fun wy e q => (oneF t HO.out HZb.out (by omega) ((Below.refl _ _).alloc (Nat.le_refl _) _) (by rw [size_alloc]) ht2.1 ht2.2 e q).mono fun e w' ⟨v', z1, z2, z3, z4, z5⟩ => ⟨v', z1, z2, z3, z4, HC2.out.kept (z5.kept _ HC2.out.lt hob), fun z => (z5.own _ z).elim hob (fun q => by rw [size_alloc] at q; omega)⟩
      clear hl0 hl1 HT HL HE ht HZ HD HD2 hD hob
      generalize hd ++ (m.ents.take i).flatMap entB = cur at *
      generalize (m.ents.getD i zE).2 = d at *
      generalize numsB [t] = nb at *
      obtain ⟨k0, k1, kf⟩ := id HC2.out
      go_wp2
      go_region_held3 (fun w' => w'.cell? ⟨wr.heap.size, 0, none⟩ = some (.int .i64 t) ∧ w'.cell? ⟨wr.heap.size, 1, none⟩ = some (.slice ka kn kc)) (go_keep) (first
        | (go_at_call 42; refine (bytesF base _ _ (cur ++ nb) d _ HO2.out (hW.out _ _ HF2.out) (Nat.le_trans HZb.out HF3.out.size) HM2.out HM3.out).mono ?_; rintro e w4 ⟨v4, rfl, ho, qB, qF⟩; have HO4 : Hid (Owns w4 base v4 ((cur ++ nb) ++ (urow d.length ++ d))) := ho; have HB4 : Hid (Below base wb w4) := HB2.out.trans qB; have HF4 : Hid (Fr v wb w4 v4) := HF2.out.trans qF; have HC4 : Hid (Cell2 w4 wr.heap.size (.int .i64 t) (.slice ka kn kc)) := HC3.out.kept (qF.kept _ HC3.out.lt HOb.out); obtain ⟨h0, h1, hf⟩ := HC4.out; clear ho qB qF)
        | (go_at_call 24; refine (HN.out _ _ rfl).mono ?_; rintro e w2 ⟨v2, rfl, ho, qB, qF, qC, qo⟩; have HOb : Hid (v2.ownBlock ≠ some wr.heap.size) := qo; have HO2 : Hid (Owns w2 base v2 (cur ++ nb)) := ho; have HB2 : Hid (Below base wb w2) := HB.out.trans qB; have HF3 : Hid (Fr u0 wr w2 v2) := qF; have HF2 : Hid (Fr v wb w2 v2) := HF.out.trans qF; have HC3 : Hid (Cell2 w2 wr.heap.size (.int .i64 t) (.slice ka kn kc)) := qC; obtain ⟨j0, j1, jf⟩ := qC; clear ho qB qF qo))
      go_wp2
      go_roundw
      case rel => exact ⟨i + 1, by omega, by go_num, by rw [HG.out]; exact HO4.out, HB4.out, HF4.out⟩
      case measure => simp [intOf]; omega
    · obtain rfl : i = n := by omega
      have hl0 := HL.out i hi
      have HM2 : Hid ((hd ++ (m.ents.take i).flatMap entB).length ≤ 10000000000000) := by show _ ≤ _; omega
      have HM3 : Hid (m.data.length ≤ 10000000000000) := by show _ ≤ _; have := HD2.out; omega
      have HBy : Hid (Calls Try.prog 42 #[u0, .slice ax.da nd ax.dc] wr fun e w' => ∃ v', e = .returned v' ∧ Owns w' base v' ((hd ++ (m.ents.take i).flatMap entB) ++ (urow m.data.length ++ m.data)) ∧ Below base wr w' ∧ Fr u0 wr w' v') := bytesF base _ _ _ m.data _ HO.out (HD.out _ _ HF.out) HZb.out HM2.out HM3.out
      clear HT HL HE HD HD2 hl0
      go_wp2_with (go_at_call 42; refine HBy.out.mono ?_; rintro e w4 ⟨v4, rfl, ho, qB, qF⟩; have HO4 : Hid (Owns w4 base v4 ((hd ++ (m.ents.take i).flatMap entB) ++ (urow m.data.length ++ m.data))) := ho; have HB4 : Hid (Below base wb w4) := HB.out.trans qB; have HF4 : Hid (Fr v wb w4 v4) := HF.out.trans qF; clear ho qB qF)
      go_ret
      exact ⟨_, rfl, by rw [HZ.out]; rw [hm] at HO4; exact HO4.out, HEnd.out _ _ HB4.out HF4.out⟩
end
end Go.Proofs.Ytcaddedkodjgcaa

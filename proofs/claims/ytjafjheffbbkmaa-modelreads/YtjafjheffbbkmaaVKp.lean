/-
  The program's Uint, Int, Bytes: contracts that tell what is kept: all blocks but the row's own, and new ones; so all blocks that are no rows of bytes.
-/
import Derived.Test.YtjafjheffbbkmaaVMore2
import Derived.Lib.ConvBytes
namespace Go.Proofs.Ytjafjheffbbkmaa.V
open Go.RowKit Pack
set_option linter.unusedVariables false

/-- No row of bytes. -/
def NB (w : World) (k : Nat) : Prop := ∀ cur f, w.heap[k]? ≠ some (.cells cur 5 f)
/-- Blocks below B, and those that are no rows of bytes, are kept. -/
structure Kp (B : Nat) (w w' : World) : Prop where
  os : w'.os = w.os
  tape : w'.tape = w.tape
  output : w'.output = w.output
  size : w.heap.size ≤ w'.heap.size
  block : ∀ k, k < w.heap.size → (k < B ∨ NB w k) → w'.heap[k]? = w.heap[k]?
theorem NB.of {w w' : World} {k : Nat} (h : NB w k) (e : w'.heap[k]? = w.heap[k]?) : NB w' k := fun cur f => by rw [e]; exact h cur f
theorem Kp.refl (B : Nat) (w : World) : Kp B w w := ⟨rfl, rfl, rfl, Nat.le_refl _, fun _ _ _ => rfl⟩
theorem Kp.trans {B : Nat} {a b c : World} (h : Kp B a b) (k : Kp B b c) : Kp B a c :=
  ⟨k.os.trans h.os, k.tape.trans h.tape, k.output.trans h.output, Nat.le_trans h.size k.size, fun i hi hc => by
    have e := h.block i hi hc
    refine (k.block i (Nat.lt_of_lt_of_le hi h.size) ?_).trans e
    rcases hc with hc | hc
    · exact .inl hc
    · exact .inr (hc.of e)⟩
theorem Kp.below {B : Nat} {a b : World} (h : Kp B a b) (hB : B ≤ a.heap.size) : Below B a b := ⟨h.os, h.tape, h.output, h.size, fun k hk => h.block k (Nat.lt_of_lt_of_le hk hB) (.inl hk)⟩
theorem Kp.of_below {B : Nat} {a b : World} (h : Below a.heap.size a b) : Kp B a b := ⟨h.os, h.tape, h.output, h.size, fun k hk _ => h.block k hk⟩
theorem Kp.mono {B B' : Nat} {a b : World} (h : Kp B a b) (hB : B' ≤ B) : Kp B' a b := ⟨h.os, h.tape, h.output, h.size, fun k hk hc => h.block k hk (hc.imp (fun q => Nat.lt_of_lt_of_le q hB) id)⟩
theorem Kp.alloc {B : Nat} {a w : World} (h : Kp B a w) (o : Obj) : Kp B a (w.alloc o) := h.trans (.of_below ((Below.refl _ _).alloc (Nat.le_refl _) o))
theorem Kp.new {B : Nat} {w w3 : World} {o : Obj} (h : Kp B (w.alloc o) w3) : Kp B w w3 := ((Kp.refl _ _).alloc o).trans h
theorem Kp.grown {B base : Nat} {w w' : World} {v : Value} {l : List (BitVec 8)} (hown : Owns w base v l) (hg : w.grownBy w' v.ownBlock) (hB : B ≤ base) : Kp B w w' :=
  ⟨hg.os, hg.tape, hg.output, hg.size, fun k hk hc => hg.block k hk (fun e => by
    have h1 := (World.ownsRow.lt hown k e.symm).1
    rcases hc with hc | hc
    · omega
    · rcases hown.2 with ⟨hv, _⟩ | ⟨g, cap, cur, hv, _, hh, _⟩
      · rw [hv] at e; cases e
      · rw [hv] at e
        simp only [Value.ownBlock, Option.some.injEq] at e
        subst e
        exact hc _ _ hh)⟩
/-- 'append(v, x...)', v a row of the call's own. -/
theorem wpList_append_kp {P : Program} {w : World} {ops : Array Oper} {rest : List Oper} {o : Oper} {a : Act} {Q : Exit → Act → World → Prop} (hgd : o.guard = none) (s x : Operand) (t : TypeId)
    (ho : o.op = .call { callee := .builtin .append, args := #[s, x], argTypes := #[t, t] })
    (base : Nat) (ht : P.underlying t = some (.slice 5)) (hinfo : (P.info? 5).map (fun i => (i.zero, i.size, i.bytes)) = some (some (.int .u8 0), 1, 1))
    (v : Value) (l : List (BitVec 8)) (hs : a.eval s = v) (hown : Owns w base v l)
    (v2 : Value) (l2 : List (BitVec 8)) (hx : a.eval x = v2) (hr : ReadsV w v2 l2) (hlen : l.length + l2.length ≤ 140737488355328) (hbase : base ≤ w.heap.size)
    (h : ∀ v' w', Owns w' base v' (l ++ l2) → Kp base w w' → wpList P ops Q rest (a.put o.dst v') w') : wpList P ops Q (o :: rest) a w := by
  obtain ⟨i, hi, hz, hsize, hby⟩ := info_parts hinfo
  obtain ⟨ad, cap, rfl, hnil, _, _, hrd⟩ := hr
  cases ad with
  | none =>
    have hl2 : l2 = [] := by
      rcases hrd.2 with h | ⟨_, _, h, _⟩
      · exact h
      · cases h
    subst hl2
    have hc : cap = 0 := hnil rfl
    subst hc
    have hh := h v w (by simpa using hown) (Kp.refl _ _)
    exact wpList_append_own_none hgd s x t ho base 5 i 1 ht hi v l.length (bytesV l) hs hown hx hh
  | some ad =>
    refine wpList_append_own w hgd s x t ho base 5 i (.int .u8 0) 1 1 ht hi hz hsize hby rfl (by decide) v l.length (bytesV l) hs hown ad l2.length cap (bytesV l2) hx (by simp [bytesV_length]) ?_ bytesV_one
      (by unfold maxLen; omega) (by omega) hbase ?_
    · intro j u hj
      obtain ⟨hj1, rfl⟩ := bytesV_getElem hj
      rcases hrd.2 with h0 | ⟨b, off, hb, hc⟩
      · subst h0; simp at hj1
      · cases hb
        rw [add_plain]
        exact hc j hj1
    · intro v' w' h1 h2 _
      refine h v' w' ?_ (Kp.grown hown h2 (Nat.le_refl _))
      show w'.ownsRow base 5 1 v' (l ++ l2).length (bytesV (l ++ l2))
      rw [List.length_append, bytesV_append]; exact h1

set_option maxRecDepth 100000 in
theorem uint_k (base : Nat) (v : Value) (l : List (BitVec 8)) (n : Nat) (w : World) (hown : Owns w base v l) (hb : base ≤ w.heap.size) (hl : l.length ≤ 100000000000000) (hn : n < 18446744073709551616) :
    Calls Try.prog 44 #[v, .int .u64 n] w fun e w' => ∃ v', e = .returned v' ∧ Owns w' base v' (l ++ urow n) ∧ Kp base w w' := by
  have HO0 : Hid (Owns w base v l) := hown
  have HL : Hid ((l ++ urow n).length ≤ 100000000000010) := by show (l ++ urow n).length ≤ _; rw [List.length_append]; have := urow_len hn; omega
  clear hown
  go_enter Try.func44, Try.ntmps44
  go_wp2
  go_loopw [0, 1] (fun v k wr => ∃ (p : List (BitVec 8)) (m : Nat), k = .int .u64 m ∧ m < 18446744073709551616 ∧ Hid (p ++ urow m = l ++ urow n) ∧ Owns wr base v p ∧ Kp base w wr) (fun _ k _ => (intOf k).toNat)
  case atStart => exact ⟨l, n, rfl, hn, rfl, HO0.out, Kp.refl _ _⟩
  case round =>
    obtain ⟨p, m, rfl, hm, HE, hown, hB⟩ := hrel
    have HO : Hid (Owns wr base u0 p) := hown
    have HB : Hid (Kp base w wr) := hB
    have hsz : base ≤ wr.heap.size := Nat.le_trans hb hB.size
    have HN : Hid (p.length + 1 ≤ 140737488355328) := by
      show p.length + 1 ≤ _
      have h1 := HL.out
      rw [← HE.out, List.length_append] at h1; omega
    clear hown hB HO0 hl hb
    by_cases hlt : m < 128
    · have HV : Hid (_ = _) := byte_low hlt
      go_wp2_with (at_builtin; refine wpList_append_kp rfl (.tmp 16) (.tmp 19) 32 rfl base Try.underlying32 Try.info5 _ p rfl (HO.out.alloc _) _ [byte m] rfl (reads_one' _ _ _ _ HV.out) HN.out (base_le hsz _) ?_; intro v1 w1 hown1 hg1; have O1 : Hid (Owns w1 base v1 (p ++ [byte m])) := hown1; have B1 : Hid (Kp base w w1) := (HB.out.alloc _).trans hg1; clear hown1 hg1)
      go_ret
      exact ⟨_, rfl, by rw [← HE.out, urow_low hlt]; exact O1.out, B1.out⟩
    · have HV : Hid (_ = _) := byte_high m
      go_wp2_with (at_builtin; refine wpList_append_kp rfl (.tmp 7) (.tmp 12) 32 rfl base Try.underlying32 Try.info5 _ p rfl (HO.out.alloc _) _ [byte (m % 128 + 128)] rfl (reads_one' _ _ _ _ HV.out) HN.out (base_le hsz _) ?_; intro v1 w1 hown1 hg1; have O1 : Hid (Owns w1 base v1 (p ++ [byte (m % 128 + 128)])) := hown1; have B1 : Hid (Kp base w w1) := (HB.out.alloc _).trans hg1; clear hown1 hg1)
      go_roundw
      case rel => exact ⟨p ++ [byte (m % 128 + 128)], m / 128, by go_num, by omega, by show _ = _; rw [← HE.out, urow_high hlt]; simp, O1.out, B1.out⟩
      case measure => simp [intOf]; omega

theorem uint_keq (x : Int) (base : Nat) (v : Value) (l : List (BitVec 8)) (n : Nat) (w : World) (hx : x = (n : Int)) (hown : Owns w base v l) (hb : base ≤ w.heap.size) (hl : l.length ≤ 100000000000000) (hn : n < 18446744073709551616) :
    Calls Try.prog 44 #[v, .int .u64 x] w fun e w' => ∃ v', e = .returned v' ∧ Owns w' base v' (l ++ urow n) ∧ Kp base w w' := by
  subst hx; exact uint_k base v l n w hown hb hl hn
set_option maxRecDepth 100000 in
theorem int_k (base : Nat) (v : Value) (l : List (BitVec 8)) (m : Int) (w : World) (hown : Owns w base v l) (hb : base ≤ w.heap.size) (hl : l.length ≤ 100000000000000) (h1 : -9223372036854775808 ≤ m) (h2 : m ≤ 9223372036854775807) :
    Calls Try.prog 76 #[v, .int .i64 m] w fun e w' => ∃ v', e = .returned v' ∧ Owns w' base v' (l ++ urow (zz m)) ∧ Kp base w w' := by
  have HO : Hid (Owns w base v l) := hown
  have HZ : Hid (zz m < 18446744073709551616) := zz_lt h1 h2
  have HL : Hid (l.length ≤ 100000000000000) := hl
  clear hown hl
  by_cases h : m < 0
  · have HV : Hid (_ = _) := zz_neg h
    go_enter Try.func76, Try.ntmps76
    go_wp2_with (go_at_call 44; refine (uint_keq _ base _ l (zz m) _ HV.out HO.out hb HL.out HZ.out).mono ?_; rintro e w' ⟨v', rfl, ho, hB⟩)
    go_ret
    exact ⟨_, rfl, ho, hB⟩
  · have HV : Hid (_ = _) := zz_pos h
    go_enter Try.func76, Try.ntmps76
    go_wp2_with (go_at_call 44; refine (uint_keq _ base _ l (zz m) _ HV.out HO.out hb HL.out HZ.out).mono ?_; rintro e w' ⟨v', rfl, ho, hB⟩)
    go_ret
    exact ⟨_, rfl, ho, hB⟩

theorem kp_ne {w : World} {base g L c : Nat} {a : Option Addr} {l : List (BitVec 8)} (ho : Owns w base (.slice a L c) l) (hbg : base ≤ g) {w1 : World} (hgl : g < w1.heap.size → a = some ⟨g, 0, none⟩) : ∀ k, k < w.heap.size → w.heap.size ≤ w1.heap.size → (k < base ∨ NB w k) → k ≠ g := fun k hk hs hc e => by
  subst e
  rcases hc with hc | hc
  · omega
  · have ha := hgl (Nat.lt_of_lt_of_le hk hs)
    rcases ho.2 with ⟨hv, _⟩ | ⟨g, cap, cur, hv, _, hh, _⟩
    · rw [ha] at hv; cases hv
    · rw [ha] at hv
      simp only [Value.slice.injEq, Option.some.injEq, Addr.mk.injEq] at hv
      rw [← hv.1.1] at hh
      exact hc _ _ hh
theorem kp_two {base g : Nat} {w w1 w2 w3 w4 : World} (h1 : Below w.heap.size w w1) (h2 : Below w1.heap.size w1 w2) (h3 : w2.grownBy w3 (some g)) (h4 : w3.grownBy w4 (some g)) (hg : ∀ k, k < w.heap.size → (k < base ∨ NB w k) → k ≠ g) : Kp base w w4 := by
  have s1 := h1.size; have s2 := h2.size; have s3 := h3.size
  refine ⟨h4.os.trans (h3.os.trans (h2.os.trans h1.os)), h4.tape.trans (h3.tape.trans (h2.tape.trans h1.tape)), h4.output.trans (h3.output.trans (h2.output.trans h1.output)), Nat.le_trans (Nat.le_trans s1 s2) (Nat.le_trans s3 h4.size), fun k hk hc => ?_⟩
  have hne : some k ≠ some g := fun e => hg k hk hc (Option.some.inj e)
  rw [h4.block k (by omega) hne, h3.block k (by omega) hne, h2.block k (by omega), h1.block k hk]
set_option maxRecDepth 100000 in
set_option maxHeartbeats 400000 in
theorem bytes_kwalk (base : Nat) (a sa : Option Addr) (L c n sc R : Nat) (l s : List (BitVec 8)) (w : World) (HO : Hid (Owns w base (.slice a L c) l)) (HS : Hid (ReadsV w (.slice sa n sc) s)) (HL : Hid (l.length = L)) (HN : Hid (s.length = n)) (HR : Hid ((urow n).length = R))
    (HB : Hid (base ≤ w.heap.size)) (hL : L ≤ 10000000000000) (hn : n ≤ 10000000000000) (hR : R ≤ 10) (hR0 : 0 < R) :
    Calls Try.prog 43 #[.slice a L c, .slice sa n sc] w fun e w' => ∃ v', e = .returned v' ∧ Owns w' base v' (l ++ (urow n ++ s)) ∧ Kp base w w' := by
  have HN64 : Hid (n < 18446744073709551616) := by show _ < _; omega
  go_enter Try.func43, Try.ntmps43
  go_wp2_with (first
    | (go_at_call 44; refine (uint_new _ n _ rfl HN64.out).mono ?_; rw [HR.out]; rintro e w1 ⟨g1, c1, rfl, hg1, hr, hB⟩; have HG1 : Hid (w.heap.size ≤ g1) := hg1; have HR1 : Hid (ReadsV w1 (.slice (some ⟨g1, 0, none⟩) R c1) (urow n)) := hr; have HB1 : Hid (Below w.heap.size w w1) := hB; clear hg1 hr hB)
    | (go_at_call 77; refine (grow_eq _ base a L c (R + n) l _ (by omega) (HO.out.below HB1.out) (Nat.le_trans HB.out HB1.out.size) (by omega) (by omega)).mono ?_; rintro e w2 ⟨g, C, cur, rfl, hC1, hC2, hbg, hgl, hh, hcl, hct, hB⟩; have HGS : Hid (base ≤ g ∧ cur.length = C ∧ cur.take L = bytesV l) := ⟨hbg, hcl, hct⟩; have HH : Hid (w2.heap[g]? = some (.cells (List.toArray cur) 5 (0, 0))) := hh; have HB2 : Hid (Below w1.heap.size w1 w2) := hB; have HGN : Hid (∀ k, k < w.heap.size → (k < base ∨ NB w k) → k ≠ g) := (fun k hk hc => kp_ne HO.out hbg hgl k hk HB1.out.size hc); have HNE : Hid (g1 ≠ g) := two_rows HO.out HG1.out HR1.out hR0 hgl; clear hbg hgl hh hcl hct hB)
    | (have := HH3; refine wpList_copy_bytes rfl (.tmp 37) (.tmp 38) 32 rfl Try.underlying32 Try.info5 _ _ _ rfl _ rfl (urow n) ((HR1.out.below HB2.out).grown HW3.out HNE.out) (by rw [HR.out]; omega) g L (by intro hpos; first | exact if_neg (by omega) | rfl) _ HH3.out (by rw [length_splice _ _ _ (by rw [bytesV_length, HN.out, HGS.out.2.1]; omega), HGS.out.2.1, HR.out]; omega) ?_; intro w4 HH4 hw4; have HW4 : Hid (w3.grownBy w4 (some g)) := hw4; clear hw4)
    | (have := HH; refine wpList_copy_bytes rfl (.tmp 31) (.tmp 32) 32 rfl Try.underlying32 Try.info5 _ _ _ rfl _ rfl s ((HS.out.below HB1.out).below HB2.out) (by rw [HN.out]; omega) g (L + R) (by rw [HN.out]; intro hpos; first | exact if_neg (by omega) | rfl) cur HH.out (by rw [HN.out, HGS.out.2.1]; omega) ?_; intro w3 HH3 hw3; have HW3 : Hid (w2.grownBy w3 (some g)) := hw3; clear hw3))
  all_goals go_ret
  all_goals first
    | exact ⟨_, rfl, own_final HL.out HR.out HN.out HGS.out.1 hC1 hC2 HGS.out.2.1 HGS.out.2.2 HH4.out, kp_two HB1.out HB2.out HW3.out HW4.out HGN.out⟩
    | exact ⟨_, rfl, own_final HL.out HR.out HN.out HGS.out.1 (by omega) (by omega) (by rw [HGS.out.2.1]; assumption) HGS.out.2.2 HH4.out, kp_two HB1.out HB2.out HW3.out HW4.out HGN.out⟩

theorem bytes_k (base : Nat) (v x : Value) (l s : List (BitVec 8)) (w : World) (ho : Owns w base v l) (hr : ReadsV w x s) (hb : base ≤ w.heap.size) (hl : l.length ≤ 10000000000000) (hs : s.length ≤ 10000000000000) :
    Calls Try.prog 43 #[v, x] w fun e w' => ∃ v', e = .returned v' ∧ Owns w' base v' (l ++ (urow s.length ++ s)) ∧ Kp base w w' := by
  have hv : ∃ a c, v = .slice a l.length c := by
    unfold Owns at ho
    rcases ho.2 with ⟨rfl, h0⟩ | ⟨g, cap, _, rfl, _⟩
    · exact ⟨none, 0, by rw [h0]⟩
    · exact ⟨_, cap, rfl⟩
  obtain ⟨a, c, rfl⟩ := hv
  have hr' := hr
  obtain ⟨sa, sc, rfl, _⟩ := hr'
  have h64 : s.length < 18446744073709551616 := by omega
  exact bytes_kwalk base a sa l.length c s.length sc _ l s w ho hr rfl rfl rfl hb hl hs (urow_len h64) (urow_pos _)

theorem below_bytes (w : World) (e : TypeId) (s : ByteArray) : Below w.heap.size w (Lib.bytesWorld w e s) := by
  refine ⟨?_, ?_, ?_, by rw [Lib.bytesWorld_size]; omega, fun k hk => Lib.bytesWorld_at_old w e s k hk⟩
  · simp [Lib.bytesWorld, World.freeze, World.alloc, World.drew, -World.alloc_eq, -World.drew_eq]
  · simp [Lib.bytesWorld, World.freeze, World.alloc, World.drew, -World.alloc_eq, -World.drew_eq]
  · simp [Lib.bytesWorld, World.freeze, World.alloc, World.drew, -World.alloc_eq, -World.drew_eq]
end Go.Proofs.Ytjafjheffbbkmaa.V

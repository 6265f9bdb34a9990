/-
  Read: the variables that bytes begin with: the contract.
-/
import Derived.Test.YtekhfepfaegpaaaRdOne
namespace Go.Proofs.Ytekhfepfaegpaaa
open Go.RowKit Pack
set_option linter.unusedVariables false

def manyM : Nat → List (BitVec 8) → VL → Except Int (VL × List (BitVec 8))
  | 0, b, l => .ok (l, b)
  | n + 1, b, l => match oneM b with
    | .error c => .error c
    | .ok (s, x, r) => manyM n r (l ++ [(str s, x)])
/-- The variables that bytes begin with, and what is behind. -/
def readM (b : List (BitVec 8)) : Except Int (VL × List (BitVec 8)) :=
  match rd 0 b with
  | .inr r => .error (code (.inr r))
  | .inl k => if 64 < val (b.take k) then .error 6 else
    match manyM (val (b.take k)) (b.drop k) [] with
    | .error c => .error c
    | .ok (l, r) => if chk (nmsOf l) (valsOf l) ≠ 0 then .error (chk (nmsOf l) (valsOf l) : Nat) else .ok (l, r)
def ReadPost (w : World) (b : List (BitVec 8)) (e : Ending) (w' : World) : Prop :=
  match readM b with
  | .error c => e = .returned (.tuple #[.agg #[.slice none 0 0, .slice none 0 0], .slice none 0 0, .int .i64 c]) ∧ Below w.heap.size w w'
  | .ok (l, r) => ∃ vv rv, e = .returned (.tuple #[vv, rv, .int .i64 0]) ∧ RdV w' vv (nmsOf l) (valsOf l) ∧ ReadsV w' rv r ∧ Below w.heap.size w w'
theorem readPost_err {w w' : World} {b : List (BitVec 8)} {c : Int} (h : readM b = .error c) (hb : Below w.heap.size w w') : ReadPost w b (.returned (.tuple #[.agg #[.slice none 0 0, .slice none 0 0], .slice none 0 0, .int .i64 c])) w' := by
  unfold ReadPost; rw [h]; exact ⟨rfl, hb⟩
theorem readPost_ok {w w' : World} {b r : List (BitVec 8)} {l : VL} {vv rv : Value} (h : readM b = .ok (l, r)) (h1 : RdV w' vv (nmsOf l) (valsOf l)) (h2 : ReadsV w' rv r) (hb : Below w.heap.size w w') : ReadPost w b (.returned (.tuple #[vv, rv, .int .i64 0])) w' := by
  unfold ReadPost; rw [h]; exact ⟨vv, rv, rfl, h1, h2, hb⟩
theorem readM_code {b : List (BitVec 8)} {q : Bool} (h : rd 0 b = .inr q) : readM b = .error (code (.inr q)) := by unfold readM; rw [h]
theorem readM_six {b : List (BitVec 8)} {k : Nat} (h : rd 0 b = .inl k) (h2 : 64 < val (b.take k)) : readM b = .error 6 := by unfold readM; rw [h]; simp only; rw [if_pos h2]
theorem readM_many {b : List (BitVec 8)} {k : Nat} {c : Int} (h : rd 0 b = .inl k) (h2 : ¬ 64 < val (b.take k)) (h3 : manyM (val (b.take k)) (b.drop k) [] = .error c) : readM b = .error c := by unfold readM; rw [h]; simp only; rw [if_neg h2, h3]
theorem readM_chk {b r : List (BitVec 8)} {k : Nat} {l : VL} (h : rd 0 b = .inl k) (h2 : ¬ 64 < val (b.take k)) (h3 : manyM (val (b.take k)) (b.drop k) [] = .ok (l, r)) (h4 : chk (nmsOf l) (valsOf l) ≠ 0) : readM b = .error (chk (nmsOf l) (valsOf l) : Nat) := by unfold readM; rw [h]; simp only; rw [if_neg h2, h3]; simp only; rw [if_pos h4]
theorem readM_fine {b r : List (BitVec 8)} {k : Nat} {l : VL} (h : rd 0 b = .inl k) (h2 : ¬ 64 < val (b.take k)) (h3 : manyM (val (b.take k)) (b.drop k) [] = .ok (l, r)) (h4 : chk (nmsOf l) (valsOf l) = 0) : readM b = .ok (l, r) := by unfold readM; rw [h]; simp only; rw [if_neg h2, h3]; simp only; rw [if_neg (by omega)]
/-- Where the loop stands. -/
def At (p n i : Nat) (b0 b : List (BitVec 8)) (W1 wr : World) (v : Value) : Prop := ∃ (l : VL) (r : List (BitVec 8)), Vr wr p l ∧ l.length = i ∧ ReadsV wr v r ∧ St p v ∧ Below p W1 wr ∧ manyM n b0 [] = manyM (n - i) r l ∧ r.length ≤ b.length ∧ ∀ q ∈ l, q.1.size ≤ b.length
theorem oneM_len {b s r : List (BitVec 8)} {x : Int} (h : oneM b = .ok (s, x, r)) : s.length ≤ b.length ∧ r.length ≤ b.length := by
  unfold oneM at h
  split at h
  · split at h
    · split at h
      · simp only [Except.ok.injEq, Prod.mk.injEq] at h
        obtain ⟨rfl, _, rfl⟩ := h
        simp; omega
      · cases h
    · cases h
  · cases h
theorem str_size (l : List (BitVec 8)) : (str l).size = l.length := by rw [← toList_len, str_toList, List.length_map]
set_option maxRecDepth 100000 in
set_option maxHeartbeats 4000000 in
theorem Read_any (b : List (BitVec 8)) (v : Value) (w : World) (hr : ReadsV w v b) (hbl : b.length ≤ 100000000) : Calls Try.prog 23 #[v] w (ReadPost w b) := by
  have HR0 : Hid (∀ o, ReadsV (w.alloc o) v b) := fun o => hr.below ((Below.refl _ _).alloc (Nat.le_refl _) o)
  have HT : Hid (∀ w', Below (w.alloc (.cells #[.slice none 0 0, .slice none 0 0] 25)).heap.size (w.alloc (.cells #[.slice none 0 0, .slice none 0 0] 25)) w' → Two w' w.heap.size (.slice none 0 0) (.slice none 0 0) ∧ Below w.heap.size w w') := fun w' hb => ⟨(Two.new w _ _ 25).below hb, ((Below.refl _ _).alloc (Nat.le_refl _) _).trans (hb.mono (base_le (Nat.le_refl _) _))⟩
  have HSet : Hid (∀ w' x y, Below w.heap.size w w' → Below w.heap.size w ((w'.setCell ⟨w.heap.size, 0, none⟩ x).setCell ⟨w.heap.size, 1, none⟩ y)) := fun w' x y h => (h.setCell (p := ⟨w.heap.size, 0, none⟩) (Nat.le_refl _) _).setCell (p := ⟨w.heap.size, 1, none⟩) (Nat.le_refl _) _
  rcases hk : rd 0 b with k | q
  · by_cases h64 : 64 < val (b.take k)
    · have HM : Hid (readM b = .error 6) := readM_six hk h64
      have hm64 : val (b.take k) < 18446744073709551616 := (rd0_ok hk).2.2.2.2
      have HU : Hid (Calls Try.prog 39 #[v] (w.alloc (.cells #[.slice none 0 0, .slice none 0 0] 25)) fun e w' => ∃ a c, e = .returned (.tuple #[.int .u64 (val (b.take k)), .slice a (b.length - k) c, .int .i64 0]) ∧ ReadsV w' (.slice a (b.length - k) c) (b.drop k) ∧ Below (w.alloc (.cells #[.slice none 0 0, .slice none 0 0] 25)).heap.size (w.alloc (.cells #[.slice none 0 0, .slice none 0 0] 25)) w' ∧ Near v (.slice a (b.length - k) c)) := readUint_ok v b k _ _ (HR0.out _) hk rfl
      clear hr HR0 hk
      generalize val (b.take k) = n at *
      go_enter Try.func23, Try.ntmps23
      go_wp2_with (go_at_call 39; refine HU.out.mono ?_; rintro e w1 ⟨a, c, rfl, q1, q2, _⟩; have HB : Hid (Below (w.alloc (.cells #[.slice none 0 0, .slice none 0 0] 25)).heap.size (w.alloc (.cells #[.slice none 0 0, .slice none 0 0] 25)) w1) := q2; obtain ⟨⟨t4, t0, t1, t2, t3⟩, _⟩ := HT.out _ q2; clear q1 q2)
      refine bodyPost_ret (v := .tuple #[.agg #[.slice none 0 0, .slice none 0 0], .slice none 0 0, .int .i64 6]) (by simp [results, Try.results23, go_sem, t0, t1]) rfl ?_
      exact readPost_err HM.out (HSet.out _ _ _ (HT.out _ HB.out).2)
    · have HMm : Hid (∀ c, manyM (val (b.take k)) (b.drop k) [] = .error c → readM b = .error c) := fun c h => readM_many hk h64 h
      have HMc : Hid (∀ l r, manyM (val (b.take k)) (b.drop k) [] = .ok (l, r) → chk (nmsOf l) (valsOf l) ≠ 0 → readM b = .error (chk (nmsOf l) (valsOf l) : Nat)) := fun l r h h2 => readM_chk hk h64 h h2
      have HMf : Hid (∀ l r, manyM (val (b.take k)) (b.drop k) [] = .ok (l, r) → chk (nmsOf l) (valsOf l) = 0 → readM b = .ok (l, r)) := fun l r h h2 => readM_fine hk h64 h h2
      have HU : Hid (Calls Try.prog 39 #[v] (w.alloc (.cells #[.slice none 0 0, .slice none 0 0] 25)) fun e w' => ∃ a c, e = .returned (.tuple #[.int .u64 (val (b.take k)), .slice a (b.length - k) c, .int .i64 0]) ∧ ReadsV w' (.slice a (b.length - k) c) (b.drop k) ∧ Below (w.alloc (.cells #[.slice none 0 0, .slice none 0 0] 25)).heap.size (w.alloc (.cells #[.slice none 0 0, .slice none 0 0] 25)) w' ∧ Near v (.slice a (b.length - k) c)) := readUint_ok v b k _ _ (HR0.out _) hk rfl
      have HSv : Hid (∀ p, w.heap.size ≤ p → b ≠ [] → St p v) := fun p hp hne a n c e => by
        obtain ⟨a', c', h1, _, _, _, _, h6⟩ := hr
        rw [h1] at e
        simp only [Value.slice.injEq] at e
        rcases h6 with h | ⟨bb, oo, ha, hc⟩
        · exact absurd h hne
        · have hlt := World.block_lt_of_cell? w _ (hc 0 (by cases b with
            | nil => exact absurd rfl hne
            | cons _ _ => simp))
          rw [ha] at e
          have e1 := e.1
          injection e1 with e1
          rw [← e1]
          exact Nat.lt_of_lt_of_le hlt hp
      have hbne : b ≠ [] := fun e => by subst e; cases hk
      have HDl : Hid ((b.drop k).length ≤ b.length) := by show _ ≤ _; simp
      have HAt : Hid (∀ (W1 : World) (vv : Value), w.heap.size ≤ W1.heap.size → ReadsV W1 vv (b.drop k) → Near v vv → At W1.heap.size (val (b.take k)) 0 (b.drop k) b W1 (W1.alloc (.cells #[.slice none 0 0, .slice none 0 0] 25)) vv) := fun W1 vv h1 h2 h3 =>
        ⟨[], b.drop k, ⟨_, _, Two.new W1 _ _ 25, Ow.nil _ _ _, Ow.nil _ _ _⟩, rfl, h2.below ((Below.refl _ _).alloc (Nat.le_refl _) _), h3.st (HSv.out _ h1 hbne), (Below.refl _ _).alloc (Nat.le_refl _) _, rfl, HDl.out, fun q hq => by simp at hq⟩
      clear hr HR0 hk HSv HDl
      generalize hn : val (b.take k) = n at *
      generalize b.drop k = b0 at *
      clear hn
      go_enter Try.func23, Try.ntmps23
      go_wp2_with (go_at_call 39; refine HU.out.mono ?_; rintro e w1 ⟨a, c, rfl, q1, q2, q3⟩; have HB : Hid (Below (w.alloc (.cells #[.slice none 0 0, .slice none 0 0] 25)).heap.size (w.alloc (.cells #[.slice none 0 0, .slice none 0 0] 25)) w1 ∧ ReadsV w1 (.slice a (b.length - k) c) b0 ∧ Near v (.slice a (b.length - k) c)) := ⟨q2, q1, q3⟩; clear q1 q2 q3)
      have HT1 : Hid (Two w1 w.heap.size (.slice none 0 0) (.slice none 0 0) ∧ Below w.heap.size w w1) := HT.out _ HB.out.1
      have hh1 : w.heap.size < w1.heap.size := HT1.out.1.lt
      have HA0 : Hid (At w1.heap.size n 0 b0 b w1 (w1.alloc (.cells #[.slice none 0 0, .slice none 0 0] 25)) (.slice a (b.length - k) c)) := HAt.out w1 _ (by omega) HB.out.2.1 HB.out.2.2
      clear HAt HB HU HT
      go_loopw [6, 24] (fun s6 s24 wr => ∃ i : Nat, i ≤ n ∧ s24 = .int .u64 i ∧ Hid (At w1.heap.size n i b0 b w1 wr s6)) (fun _ s24 _ => n - (intOf s24).toNat)
      case atStart => exact ⟨0, Nat.zero_le _, rfl, HA0⟩
      case round =>
        obtain ⟨i, hi, rfl, HA⟩ := hrel
        by_cases hlt : i < n
        · obtain ⟨l, r, hV, hL, hRd, hS, hB, hMy, hrl, hsz⟩ := HA.out
          have hMs : manyM n b0 [] = match oneM r with
              | .error c => .error c
              | .ok (s, x, r') => manyM (n - (i + 1)) r' (l ++ [(str s, x)]) := by
            rw [hMy, show n - i = (n - (i + 1)) + 1 by omega, manyM]
          cases ho : oneM r with
          | error cc =>
            rw [ho] at hMs
            have HE : Hid (readM b = .error cc) := HMm.out cc hMs
            have HO : Hid (Calls Try.prog 40 #[.pointer (some ⟨w1.heap.size, 0, none⟩), u6] wr fun e w' => e = .returned (.tuple #[.slice none 0 0, .int .i64 cc]) ∧ Below wr.heap.size wr w' ∧ cc ≠ 0) := readOne_err _ _ r cc wr hRd ho
            have HBr : Hid (∀ w', Below wr.heap.size wr w' → Two w' w.heap.size (.slice none 0 0) (.slice none 0 0) ∧ Below w.heap.size w w') := fun w' hb => by
              have hb1 : Below w1.heap.size w1 w' := hB.trans (hb.mono hB.size)
              exact ⟨HT1.out.1.below hb1, HT1.out.2.trans (hb1.mono HT1.out.2.size)⟩
            clear hV hL hRd hS hB hMy hrl hsz hMs ho HA HMm HMc HMf HA0
            go_wp2_with (go_at_call 40; refine HO.out.mono ?_; rintro e w2 ⟨rfl, q1, q2⟩; have HB2 : Hid (Below wr.heap.size wr w2) := q1; have hne2 : (cc != 0) = true := bne_iff_ne.2 q2; obtain ⟨⟨t4, t0, t1, t2, t3⟩, _⟩ := HBr.out _ q1; clear q1)
            refine bodyPost_ret (v := .tuple #[.agg #[.slice none 0 0, .slice none 0 0], .slice none 0 0, .int .i64 cc]) (by simp [results, Try.results23, go_sem, t0, t1]) rfl ?_
            exact readPost_err HE.out (HSet.out _ _ _ (HBr.out _ HB2.out).2)
          | ok sxr =>
            obtain ⟨s, x, r'⟩ := sxr
            rw [ho] at hMs
            have hol := oneM_len ho
            have HO : Hid (Calls Try.prog 40 #[.pointer (some ⟨w1.heap.size, 0, none⟩), u6] wr fun e w' => ∃ rv, e = .returned (.tuple #[rv, .int .i64 0]) ∧ At w1.heap.size n (i + 1) b0 b w1 w' rv) := by
              refine (readOne_ok _ l _ r s r' x wr hV hRd hS ho (by omega)).mono ?_
              rintro e w' ⟨rv, rfl, z1, z2, z3, z4⟩
              refine ⟨rv, rfl, l ++ [(str s, x)], r', z3, by rw [List.length_append, hL]; rfl, z1, z2, hB.trans z4, hMs, by omega, fun q hq => ?_⟩
              rcases List.mem_append.1 hq with hq | hq
              · exact hsz q hq
              · simp at hq; rw [hq]; show (str s).size ≤ _; rw [str_size]; omega
            clear hV hL hRd hS hB hMy hrl hsz hMs ho HA HMm HMc HMf HA0
            go_wp2_with (go_at_call 40; refine HO.out.mono ?_; rintro e w2 ⟨rv, rfl, q1⟩; have HA2 : Hid (At w1.heap.size n (i + 1) b0 b w1 w2 rv) := q1; clear q1)
            go_roundw
            case rel => exact ⟨i + 1, by omega, by go_num, HA2⟩
            case measure => simp [intOf]; omega
        · have e : i = n := by omega
          have e' : n = i := e.symm
          clear e
          subst e'
          obtain ⟨l, r, hV, hL, hRd, hS, hB, hMy, hrl, hsz⟩ := HA.out
          have hM2 : manyM n b0 [] = .ok (l, r) := by rw [hMy, Nat.sub_self]; rfl
          have HMc2 : Hid (chk (nmsOf l) (valsOf l) ≠ 0 → readM b = .error (chk (nmsOf l) (valsOf l) : Nat)) := HMc.out l r hM2
          have HMf2 : Hid (chk (nmsOf l) (valsOf l) = 0 → readM b = .ok (l, r)) := HMf.out l r hM2
          obtain ⟨a5, c5, b5, d5, ht, o9, o2⟩ := hV.at
          have HCk : Hid (Calls Try.prog 10 #[.agg #[.slice a5 l.length c5, .slice b5 l.length d5]] wr fun e w' => e = .returned (.int .i64 (chk (nmsOf l) (valsOf l) : Nat)) ∧ Below wr.heap.size wr w') := Check_any _ _ _ wr ⟨_, _, rfl, Rd.of_own o9, Rd.of_own o2⟩ (fun m hm => by
            obtain ⟨q, hq, rfl⟩ := List.mem_map.1 hm
            have := hsz q hq
            omega)
          have HS5 : Hid (∀ w', Below wr.heap.size wr w' → Two w' w1.heap.size (.slice a5 l.length c5) (.slice b5 l.length d5) ∧ Two w' w.heap.size (.slice none 0 0) (.slice none 0 0) ∧ Below w.heap.size w w' ∧ Ow w' (w1.heap.size + 1) 9 (.slice a5 l.length c5) (strsV (nmsOf l)) ∧ Ow w' (w1.heap.size + 1) 2 (.slice b5 l.length d5) (intsV (valsOf l)) ∧ ReadsV w' u6 r) := fun w' hb => by
            have hb1 : Below w1.heap.size w1 w' := hB.trans (hb.mono hB.size)
            exact ⟨ht.below hb, HT1.out.1.below hb1, HT1.out.2.trans (hb1.mono HT1.out.2.size), o9.below hb, o2.below hb, hRd.below hb⟩
          have hrl2 : r.length ≤ 100000000000000 := by omega
          obtain ⟨y4, y0, y1, y2, y3⟩ := ht
          clear hV hL hRd hS hB hMy hrl hsz hM2 o9 o2 HA HMm HMc HMf HA0
          generalize hLn : l.length = L at *
          generalize chk (nmsOf l) (valsOf l) = ck at *
          by_cases h0 : ck = 0
          · have HE : Hid (readM b = .ok (l, r)) := HMf2.out h0
            subst h0
            clear HMc2 HMf2
            go_wp2_with (go_at_call 10; refine HCk.out.mono ?_; rintro e w2 ⟨rfl, q1⟩; have HB2 : Hid (Below wr.heap.size wr w2) := q1; obtain ⟨⟨z4, z0, z1, z2, z3⟩, ⟨t4, t0, t1, t2, t3⟩, _⟩ := HS5.out _ q1; clear q1)
            have HCB : Hid (∀ w', Below wr.heap.size wr w' → Calls Try.prog 41 #[u6] w' fun e w4 => ∃ v', e = .returned v' ∧ Owns w4 w'.heap.size v' r ∧ Below w'.heap.size w' w4) := fun w' hb => cloneB_any r u6 w' (HS5.out _ hb).2.2.2.2.2 hrl2
            have HB3 : Hid (Below wr.heap.size wr w2.drew) := Below.drew HB2.out
            have HFin : Hid (∀ w4 v', Below wr.heap.size wr w4 → ReadsV w4 v' r → (∃ base, Owns w4 base v' r ∧ w.heap.size < base) → ReadPost w b (.returned (.tuple #[.agg #[.slice a5 L c5, .slice b5 L d5], v', .int .i64 0])) ((w4.setCell ⟨w.heap.size, 0, none⟩ (.slice a5 L c5)).setCell ⟨w.heap.size, 1, none⟩ (.slice b5 L d5))) := fun w4 v' hb hv ⟨base, ho, hlt2⟩ => by
              obtain ⟨_, _, z1, z2, z3, _⟩ := HS5.out _ hb
              refine readPost_ok HE.out ⟨_, _, rfl, Rd.of_own (ownsRow_setCell_below (a := ⟨w.heap.size, 1, none⟩) (ownsRow_setCell_below (a := ⟨w.heap.size, 0, none⟩) z2 (by show w.heap.size < _; omega) _) (by show w.heap.size < _; omega) _), Rd.of_own (ownsRow_setCell_below (a := ⟨w.heap.size, 1, none⟩) (ownsRow_setCell_below (a := ⟨w.heap.size, 0, none⟩) z3 (by show w.heap.size < _; omega) _) (by show w.heap.size < _; omega) _)⟩ (ReadsV.of_own (base := base) (ownsRow_setCell_below (a := ⟨w.heap.size, 1, none⟩) (ownsRow_setCell_below (a := ⟨w.heap.size, 0, none⟩) ho hlt2 _) hlt2 _)) (HSet.out _ _ _ z1)
            have hw2 : w.heap.size < w2.heap.size := t4
            go_region_with (go_at_call 41; refine (HCB.out _ HB3.out).mono ?_; rintro e w4 ⟨v', rfl, q1, q2⟩; have HB4 : Hid (Below wr.heap.size wr w4 ∧ Owns w4 w2.heap.size v' r) := ⟨HB3.out.trans (q2.mono HB3.out.size), q1⟩; obtain ⟨⟨z4, z0, z1, z2, z3⟩, ⟨t4, t0, t1, t2, t3⟩, _⟩ := HS5.out _ HB4.out.1; clear q1 q2)
            all_goals go_wp2
            all_goals
              (refine bodyPost_ret (v := .tuple #[.agg #[.slice a5 L c5, .slice b5 L d5], v', .int .i64 0]) (by simp [results, Try.results23, go_sem, t0, t1]) rfl ?_
               exact HFin.out _ _ HB4.out.1 (ReadsV.of_own HB4.out.2) ⟨_, HB4.out.2, hw2⟩)
          · have HE : Hid (readM b = .error (ck : Nat)) := HMc2.out h0
            have hne : ¬ ((ck : Int) = 0) := by omega
            clear HMc2 HMf2
            go_wp2_with (go_at_call 10; refine HCk.out.mono ?_; rintro e w2 ⟨rfl, q1⟩; have HB2 : Hid (Below wr.heap.size wr w2) := q1; obtain ⟨⟨z4, z0, z1, z2, z3⟩, ⟨t4, t0, t1, t2, t3⟩, _⟩ := HS5.out _ q1; clear q1)
            refine bodyPost_ret (v := .tuple #[.agg #[.slice none 0 0, .slice none 0 0], .slice none 0 0, .int .i64 ck]) (by simp [results, Try.results23, go_sem, t0, t1]) rfl ?_
            exact readPost_err HE.out (HSet.out _ _ _ (HS5.out _ HB2.out).2.2.1)
  · have HM : Hid (readM b = .error (code (.inr q))) := readM_code hk
    have HU : Hid (Calls Try.prog 39 #[v] (w.alloc (.cells #[.slice none 0 0, .slice none 0 0] 25)) fun e w' => e = .returned (.tuple #[.int .u64 0, .slice none 0 0, .int .i64 (code (.inr q))]) ∧ Below (w.alloc (.cells #[.slice none 0 0, .slice none 0 0] 25)).heap.size (w.alloc (.cells #[.slice none 0 0, .slice none 0 0] 25)) w') := readUint_err v b _ _ (HR0.out _) (fun k e => by rw [hk] at e; cases e) (by rw [hk])
    have hne : (code (.inr q) != 0) = true := by
      have := code_ne (r := .inr q) (fun k e => by cases e)
      simp; omega
    clear hr HR0 hk
    generalize code (.inr q) = cc at *
    go_enter Try.func23, Try.ntmps23
    go_wp2_with (go_at_call 39; refine HU.out.mono ?_; rintro e w1 ⟨rfl, q2⟩; have HB : Hid (Below (w.alloc (.cells #[.slice none 0 0, .slice none 0 0] 25)).heap.size (w.alloc (.cells #[.slice none 0 0, .slice none 0 0] 25)) w1) := q2; obtain ⟨⟨t4, t0, t1, t2, t3⟩, _⟩ := HT.out _ q2; clear q2)
    refine bodyPost_ret (v := .tuple #[.agg #[.slice none 0 0, .slice none 0 0], .slice none 0 0, .int .i64 cc]) (by simp [results, Try.results23, go_sem, t0, t1]) rfl ?_
    exact readPost_err HM.out (HSet.out _ _ _ (HT.out _ HB.out).2)
end Go.Proofs.Ytekhfepfaegpaaa

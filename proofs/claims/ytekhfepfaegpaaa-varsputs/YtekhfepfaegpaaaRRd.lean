/-
  The document's Read: the contract.
-/
import Derived.Test.YtekhfepfaegpaaaRByt
namespace Go.Proofs.Ytekhfepfaegpaaa
open Go.RowKit Pack
set_option linter.unusedVariables false

def RReadPost (w : World) (b : List (BitVec 8)) (e : Ending) (w' : World) : Prop :=
  match readM b with
  | .error c => e = .returned (.tuple #[.agg #[.slice none 0 0, .slice none 0 0], .int .i64 0, .int .i64 c]) ∧ Below w.heap.size w w'
  | .ok (l, r) => ∃ vv, ∃ k : Nat, e = .returned (.tuple #[vv, .int .i64 k, .int .i64 0]) ∧ RdV w' vv (nmsOf l) (valsOf l) ∧ b.drop k = r ∧ k ≤ b.length ∧ Below w.heap.size w w'
theorem rreadPost_err {w w' : World} {b : List (BitVec 8)} {c : Int} (h : readM b = .error c) (hb : Below w.heap.size w w') : RReadPost w b (.returned (.tuple #[.agg #[.slice none 0 0, .slice none 0 0], .int .i64 0, .int .i64 c])) w' := by
  unfold RReadPost; rw [h]; exact ⟨rfl, hb⟩
theorem rreadPost_ok {w w' : World} {b r : List (BitVec 8)} {l : VL} {vv : Value} {k : Nat} (h : readM b = .ok (l, r)) (h1 : RdV w' vv (nmsOf l) (valsOf l)) (h2 : b.drop k = r) (h3 : k ≤ b.length) (hb : Below w.heap.size w w') : RReadPost w b (.returned (.tuple #[vv, .int .i64 k, .int .i64 0])) w' := by
  unfold RReadPost; rw [h]; exact ⟨vv, k, rfl, h1, h2, h3, hb⟩
/-- A name behind others. -/
theorem push_name {p N c d : Nat} {a b0 : Option Addr} {L9 L2 : List Value} {s : ByteArray} {w2 w3 : World} {v' : Value} (q1 : Two w2 p (.slice a N c) (.slice b0 N d)) (q2 : Ow w2 (p + 1) 9 (.slice a N c) L9) (q3 : Ow w2 (p + 1) 2 (.slice b0 N d) L2) (q5 : Ow w3 (p + 1) 9 v' (L9 ++ [.string s])) (q6 : (w2.alloc (.cells #[.string s] 9)).grownBy w3 (Value.slice a N c).ownBlock) :
    Two w3 p (.slice a N c) (.slice b0 N d) ∧ (∃ a' n' c', v' = .slice a' n' c') ∧ Two (w3.setCell ⟨p, 0, none⟩ v') p v' (.slice b0 N d) ∧ Ow (w3.setCell ⟨p, 0, none⟩ v') (p + 1) 9 v' (L9 ++ [.string s]) ∧ Ow (w3.setCell ⟨p, 0, none⟩ v') (p + 1) 2 (.slice b0 N d) L2 ∧ Below p w2 (w3.setCell ⟨p, 0, none⟩ v') := by
  have q4 : p + 1 ≤ w2.heap.size := q1.lt
  have t3 := two_kept (q1.alloc (.cells #[.string s] 9)) q6 (ow_block (q2.alloc (.cells #[.string s] 9)))
  refine ⟨t3, ?_, two_set0 t3 v', ow_set q5 0 v', ow_set (ow_kept (q3.alloc (.cells #[.string s] 9)) q6 (ow_apart (q2.alloc (.cells #[.string s] 9)) (q3.alloc (.cells #[.string s] 9)))) 0 v', ?_⟩
  · obtain ⟨a', c', e⟩ := (Rd.of_own q5).form
    exact ⟨_, _, _, e⟩
  · exact Below.setCell (B := p) (below_row (B := p) (Below.alloc (B := p) (Below.refl _ _) (by omega) _) (by rw [size_alloc]; omega) (q2.alloc (.cells #[.string s] 9)) (by omega) q6) (p := ⟨p, 0, none⟩) (Nat.le_refl _) _
/-- A number behind others. -/
theorem push_val {p N d : Nat} {b0 : Option Addr} {l : VL} {s : ByteArray} {n : Int} {w4 w5 : World} {v' v2 : Value} (q1 : Two w4 p v' (.slice b0 N d)) (q2 : Ow w4 (p + 1) 9 v' (strsV (nmsOf l) ++ [.string s])) (q3 : Ow w4 (p + 1) 2 (.slice b0 N d) (intsV (valsOf l))) (q5 : Ow w5 (p + 1) 2 v2 (intsV (valsOf l) ++ [.int .i64 n])) (q6 : (w4.alloc (.cells #[.int .i64 n] 2)).grownBy w5 (Value.slice b0 N d).ownBlock) :
    Two w5 p v' (.slice b0 N d) ∧ (∃ a' n' c', v2 = .slice a' n' c') ∧ Vr (w5.setCell ⟨p, 1, none⟩ v2) p (l ++ [(s, n)]) ∧ Below p w4 (w5.setCell ⟨p, 1, none⟩ v2) := by
  have q4 : p + 1 ≤ w4.heap.size := q1.lt
  have t5 := two_kept (q1.alloc (.cells #[.int .i64 n] 2)) q6 (ow_block (q3.alloc (.cells #[.int .i64 n] 2)))
  refine ⟨t5, ?_, ⟨_, _, two_set1 t5 v2, ?_, ?_⟩, ?_⟩
  · obtain ⟨a', c', e⟩ := (Rd.of_own q5).form
    exact ⟨_, _, _, e⟩
  · have := ow_set (ow_kept9 (q2.alloc (.cells #[.int .i64 n] 2)) q6 (apart_sym (ow_apart (q2.alloc (.cells #[.int .i64 n] 2)) (q3.alloc (.cells #[.int .i64 n] 2))))) 1 v2
    simpa [strsV, nmsOf] using this
  · have := ow_set q5 1 v2
    simpa [intsV, valsOf] using this
  · exact Below.setCell (B := p) (below_row (B := p) (Below.alloc (B := p) (Below.refl _ _) (by omega) _) (by rw [size_alloc]; omega) (q3.alloc (.cells #[.int .i64 n] 2)) (by omega) q6) (p := ⟨p, 1, none⟩) (Nat.le_refl _) _
/-- Where the loop stands. -/
def AtR (p n i : Nat) (at' : Nat) (b0 b : List (BitVec 8)) (W1 wr : World) : Prop := ∃ l : VL, Vr wr p l ∧ l.length = i ∧ Below p W1 wr ∧ manyM n b0 [] = manyM (n - i) (b.drop at') l ∧ at' ≤ b.length ∧ ∀ q ∈ l, q.1.size ≤ b.length
theorem size_set (w : World) (a : Addr) (u : Value) : (w.setCell a u).heap.size = w.heap.size := by simp [World.setCell]
theorem oneM_nil : oneM [] = .error 5 := rfl
theorem rbytes_nil (a : Option Addr) (w : World) : Calls Try.prog 43 #[.slice a 0 0] w fun e w' => e = .returned (.tuple #[.slice none 0 0, .int .i64 0, .int .i64 5]) ∧ w' = w := rreadBytes_err (.slice a 0 0) [] 5 w ⟨a, 0, rfl, fun _ => rfl, Nat.le_refl _, by decide, by decide, .inl rfl⟩ (fun k e => by cases e) rfl
theorem rint_nil (a : Option Addr) (w : World) : Calls Try.prog 44 #[.slice a 0 0] w fun e w' => e = .returned (.tuple #[.int .i64 0, .int .i64 0, .int .i64 5]) ∧ w' = w := rreadInt_err (.slice a 0 0) [] 5 w ⟨a, 0, rfl, fun _ => rfl, Nat.le_refl _, by decide, by decide, .inl rfl⟩ (fun k e => by cases e) rfl
/-- The steps of one variable that is read. -/
theorem one_cases (r : List (BitVec 8)) : (∃ c, oneM r = .error c ∧ c ≠ 0 ∧ ∀ w v, ReadsV w v r → Calls Try.prog 43 #[v] w fun e w' => e = .returned (.tuple #[.slice none 0 0, .int .i64 0, .int .i64 c]) ∧ w' = w) ∨
    ∃ (km : Nat) (s : List (BitVec 8)), km ≤ r.length ∧ (∀ w v, ReadsV w v r → Calls Try.prog 43 #[v] w fun e w' => ∃ sa sc, e = .returned (.tuple #[.slice sa s.length sc, .int .i64 km, .int .i64 0]) ∧ ReadsV w (.slice sa s.length sc) s ∧ w' = w) ∧
      ((∃ c, oneM r = .error c ∧ c ≠ 0 ∧ (r.drop km = [] → c = 5) ∧ ∀ w v, ReadsV w v (r.drop km) → Calls Try.prog 44 #[v] w fun e w' => e = .returned (.tuple #[.int .i64 0, .int .i64 0, .int .i64 c]) ∧ w' = w) ∨
       ∃ (j : Nat) (x : Int), j ≤ r.length - km ∧ 0 < j ∧ oneM r = .ok (s, x, r.drop (km + j)) ∧ ∀ w v, ReadsV w v (r.drop km) → Calls Try.prog 44 #[v] w fun e w' => e = .returned (.tuple #[.int .i64 x, .int .i64 j, .int .i64 0]) ∧ w' = w) := by
  rcases hk : rd 0 r with k | q
  · by_cases hm : val (r.take k) ≤ r.length - k
    · right
      obtain ⟨a1, a2, _⟩ := rd0_ok hk
      have hsl : ((r.drop k).take (val (r.take k))).length = val (r.take k) := by rw [List.length_take, List.length_drop]; omega
      refine ⟨k + val (r.take k), (r.drop k).take (val (r.take k)), by omega, fun w v hv => ?_, ?_⟩
      · refine (rreadBytes_ok v r k _ w hv hk rfl hm).mono ?_
        rintro e w' ⟨sv, rfl, h1, rfl⟩
        have h1' := h1
        obtain ⟨sa, sc, rfl, _⟩ := h1
        exact ⟨sa, sc, by simp, h1', rfl⟩
      · rcases hj : rd 0 (r.drop (k + val (r.take k))) with j | q
        · right
          obtain ⟨b1, b2, _⟩ := rd0_ok hj
          refine ⟨j, unzz (val ((r.drop (k + val (r.take k))).take j)), by rw [List.length_drop] at b2; exact b2, b1, ?_, fun w v hv => rreadInt_ok v _ j _ w hv hj rfl⟩
          unfold oneM
          rw [hk]
          simp only
          rw [if_pos hm, hj]
          simp only [List.drop_drop]
        · left
          refine ⟨code (.inr q), ?_, ?_, fun h0 => by rw [h0] at hj; rw [← hj]; rfl, fun w v hv => rreadInt_err v _ _ w hv (fun k2 e => by rw [hj] at e; cases e) (by rw [hj])⟩
          · unfold oneM
            rw [hk]
            simp only
            rw [if_pos hm, hj]
          · have := code_ne (r := .inr q) (fun k e => by cases e)
            omega
    · left
      refine ⟨5, ?_, by decide, fun w v hv => rreadBytes_short v r k _ w hv hk rfl (by omega)⟩
      unfold oneM
      rw [hk]
      simp only
      rw [if_neg hm]
  · left
    refine ⟨code (.inr q), ?_, ?_, fun w v hv => rreadBytes_err v r _ w hv (fun k2 e => by rw [hk] at e; cases e) (by rw [hk])⟩
    · unfold oneM
      rw [hk]
    · have := code_ne (r := .inr q) (fun k e => by cases e)
      omega
set_option maxRecDepth 100000 in
set_option maxHeartbeats 1000000 in
theorem rRead_any (b : List (BitVec 8)) (v : Value) (w : World) (hr : ReadsV w v b) (hbl : b.length ≤ 100000000) : Calls Try.prog 24 #[v] w (RReadPost w b) := by
  have hr0 := hr
  obtain ⟨xa, xc, rfl, hx0, hx1, hx2, _⟩ := hr0
  have hx2' : xc ≤ 9223372036854775807 := hx2
  have HR0 : Hid (∀ w', Below w.heap.size w w' → ReadsV w' (.slice xa b.length xc) b) := fun w' hb => hr.below hb
  have HT : Hid (∀ w', Below (w.alloc (.cells #[.slice none 0 0, .slice none 0 0] 25)).heap.size (w.alloc (.cells #[.slice none 0 0, .slice none 0 0] 25)) w' → Two w' w.heap.size (.slice none 0 0) (.slice none 0 0) ∧ Below w.heap.size w w') := fun w' hb => ⟨(Two.new w _ _ 25).below hb, ((Below.refl _ _).alloc (Nat.le_refl _) _).trans (hb.mono (base_le (Nat.le_refl _) _))⟩
  have HSet : Hid (∀ w' x y, Below w.heap.size w w' → Below w.heap.size w ((w'.setCell ⟨w.heap.size, 0, none⟩ x).setCell ⟨w.heap.size, 1, none⟩ y)) := fun w' x y h => (h.setCell (p := ⟨w.heap.size, 0, none⟩) (Nat.le_refl _) _).setCell (p := ⟨w.heap.size, 1, none⟩) (Nat.le_refl _) _
  have HBa : Hid (Below w.heap.size w (w.alloc (.cells #[.slice none 0 0, .slice none 0 0] 25))) := (Below.refl _ _).alloc (Nat.le_refl _) _
  have tT := Two.new w (.slice none 0 0) (.slice none 0 0) 25
  rcases hk : rd 0 b with k | q
  · have HU : Hid (Calls Try.prog 42 #[.slice xa b.length xc] (w.alloc (.cells #[.slice none 0 0, .slice none 0 0] 25)) fun e w' => e = .returned (.tuple #[.int .u64 (val (b.take k)), .int .i64 k, .int .i64 0]) ∧ w' = w.alloc (.cells #[.slice none 0 0, .slice none 0 0] 25)) := rreadUint_ok _ b k _ _ (HR0.out _ HBa.out) hk rfl
    have hkb := (rd0_ok hk).2.1
    by_cases h64 : 64 < val (b.take k)
    · have HM : Hid (readM b = .error 6) := readM_six hk h64
      have hm64 : val (b.take k) < 18446744073709551616 := (rd0_ok hk).2.2.2.2
      obtain ⟨t4, t0, t1, t2, t3⟩ := tT
      clear hr HR0 hk
      generalize val (b.take k) = n at *
      go_enter Try.func24, Try.ntmps24
      go_wp2_with (go_at_call 42; refine HU.out.mono ?_; rintro e w1 ⟨rfl, rfl⟩)
      refine bodyPost_ret (v := .tuple #[.agg #[.slice none 0 0, .slice none 0 0], .int .i64 0, .int .i64 6]) (by simp [results, Try.results24, go_sem, t0, t1]) rfl ?_
      exact rreadPost_err HM.out HBa.out
    · have HMm : Hid (∀ c, manyM (val (b.take k)) (b.drop k) [] = .error c → readM b = .error c) := fun c h => readM_many hk h64 h
      have HMc : Hid (∀ l r, manyM (val (b.take k)) (b.drop k) [] = .ok (l, r) → chk (nmsOf l) (valsOf l) ≠ 0 → readM b = .error (chk (nmsOf l) (valsOf l) : Nat)) := fun l r h h2 => readM_chk hk h64 h h2
      have HMf : Hid (∀ l r, manyM (val (b.take k)) (b.drop k) [] = .ok (l, r) → chk (nmsOf l) (valsOf l) = 0 → readM b = .ok (l, r)) := fun l r h h2 => readM_fine hk h64 h h2
      obtain ⟨W1, hW1⟩ : ∃ W, W = w.alloc (.cells #[.slice none 0 0, .slice none 0 0] 25) := ⟨_, rfl⟩
      have HT1 : Hid (Two W1 w.heap.size (.slice none 0 0) (.slice none 0 0) ∧ Below w.heap.size w W1) := by rw [hW1]; exact ⟨tT, HBa.out⟩
      have hp1 : W1.heap.size = w.heap.size + 1 := by rw [hW1, size_alloc]
      have HA0 : Hid (AtR (w.heap.size + 1) (val (b.take k)) 0 k (b.drop k) b W1 (W1.alloc (.cells #[.slice none 0 0, .slice none 0 0] 25))) := by
        rw [← hp1]
        exact ⟨[], ⟨_, _, Two.new W1 _ _ 25, Ow.nil _ _ _, Ow.nil _ _ _⟩, rfl, (Below.refl _ _).alloc (Nat.le_refl _) _, rfl, hkb, fun q hq => by simp at hq⟩
      have HP1 : Hid (W1.heap.size = w.heap.size + 1) := hp1
      clear hp1
      clear hr hk tT HBa HT
      generalize hn : val (b.take k) = n at *
      generalize b.drop k = b0 at *
      clear hn
      generalize hB : b.length = B0 at *
      go_enter Try.func24, Try.ntmps24
      go_wp2_with (go_at_call 42; refine HU.out.mono ?_; rintro e w1 ⟨rfl, rfl⟩)
      rw [← hW1]
      go_loopw [6, 9] (fun s6 s9 wr => ∃ i at' : Nat, i ≤ n ∧ at' ≤ B0 ∧ s9 = .int .u64 i ∧ s6 = .int .i64 at' ∧ Hid (AtR (w.heap.size + 1) n i at' b0 b W1 wr)) (fun _ s9 _ => n - (intOf s9).toNat)
      case atStart => exact ⟨0, k, Nat.zero_le _, hkb, rfl, rfl, HA0⟩
      case round =>
        obtain ⟨i, at', hi, hat, rfl, rfl, HA⟩ := hrel
        obtain ⟨l, hV, hL, hBl, hMy, hatb, hsz⟩ := HA.out
        have hBw : Below w.heap.size w wr := HT1.out.2.trans (hBl.mono (by omega))
        have HBw : Hid (Below w.heap.size w wr) := hBw
        have hRd := HR0.out _ hBw
        have HTr : Hid (Two wr w.heap.size (.slice none 0 0) (.slice none 0 0)) := HT1.out.1.below (by rw [HP1.out]; exact hBl)
        by_cases hlt : i < n
        · have hMs : manyM n b0 [] = match oneM (b.drop at') with
              | .error c => .error c
              | .ok (s, x, r') => manyM (n - (i + 1)) r' (l ++ [(str s, x)]) := by
            rw [hMy, show n - i = (n - (i + 1)) + 1 by omega, manyM]
            rfl
          by_cases hca : xc = at'
          · have hdn : b.drop at' = [] := List.drop_eq_nil_of_le (by omega)
            rw [hdn, oneM_nil] at hMs
            have HE : Hid (readM b = .error 5) := HMm.out 5 hMs
            have hB0 : B0 = at' := by omega
            obtain ⟨t4, t0, t1, t2, t3⟩ := HTr.out
            clear hV hL hBl hMy hatb hsz hMs hdn HA HMm HMc HMf HA0 hBw hRd hB HR0 HU
            subst hB0
            subst hca
            go_wp2_with (go_at_call 43; refine (rbytes_nil _ _).mono ?_; rintro e w2 ⟨rfl, rfl⟩)
            refine bodyPost_ret (v := .tuple #[.agg #[.slice none 0 0, .slice none 0 0], .int .i64 0, .int .i64 5]) (by simp [results, Try.results24, go_sem, t0, t1]) rfl ?_
            exact rreadPost_err HE.out (HSet.out _ _ _ HBw.out)
          · have hc1 : ReadsV wr (.slice (xa.map (fun x => x.add at')) (B0 - at') (xc - at')) (b.drop at') := tailA hRd hat hca
            rcases one_cases (b.drop at') with ⟨cc, ho, hcc, h43⟩ | ⟨km, s, hkm, h43, ⟨cc, ho, hcc, hc5, h44⟩ | ⟨j, x, hj, hj0, ho, h44⟩⟩
            · rw [ho] at hMs
              have HE : Hid (readM b = .error cc) := HMm.out cc hMs
              have HC43 : Hid (Calls Try.prog 43 #[.slice (xa.map (fun x => x.add at')) (B0 - at') (xc - at')] wr fun e w' => e = .returned (.tuple #[.slice none 0 0, .int .i64 0, .int .i64 cc]) ∧ w' = wr) := h43 _ _ hc1
              have hne2 : (cc != 0) = true := bne_iff_ne.2 hcc
              obtain ⟨t4, t0, t1, t2, t3⟩ := HTr.out
              clear hV hL hBl hMy hatb hsz hMs HA HMm HMc HMf HA0 hBw hRd HR0 HU h43 ho hc1
              go_wp2_with (go_at_call 43; refine HC43.out.mono ?_; rintro e w2 ⟨rfl, rfl⟩)
              refine bodyPost_ret (v := .tuple #[.agg #[.slice none 0 0, .slice none 0 0], .int .i64 0, .int .i64 cc]) (by simp [results, Try.results24, go_sem, t0, t1]) rfl ?_
              exact rreadPost_err HE.out (HSet.out _ _ _ HBw.out)
            · rw [ho] at hMs
              have HE : Hid (readM b = .error cc) := HMm.out cc hMs
              have HC43 : Hid (Calls Try.prog 43 #[.slice (xa.map (fun x => x.add at')) (B0 - at') (xc - at')] wr fun e w' => ∃ sa sc, e = .returned (.tuple #[.slice sa s.length sc, .int .i64 km, .int .i64 0]) ∧ ReadsV wr (.slice sa s.length sc) s ∧ w' = wr) := h43 _ _ hc1
              have hne2 : (cc != 0) = true := bne_iff_ne.2 hcc
              rw [List.length_drop, hB] at hkm
              have hle : at' + km ≤ B0 := by omega
              obtain ⟨t4, t0, t1, t2, t3⟩ := HTr.out
              have hdd : (b.drop at').drop km = b.drop (at' + km) := List.drop_drop ..
              rw [hdd] at h44
              by_cases hcb : xc = at' + km
              · have hdn : b.drop (at' + km) = [] := List.drop_eq_nil_of_le (by omega)
                have hcc5 : cc = 5 := hc5 (by rw [hdd]; exact hdn)
                have hB0 : B0 = at' + km := by omega
                clear hV hL hBl hMy hatb hsz hMs HA HMm HMc HMf HA0 hBw hRd HR0 HU h43 h44 ho hc1 hdd hdn hc5 hB
                subst hcc5
                subst hB0
                subst hcb
                rw [show at' + km - at' = km by omega] at HC43
                have htn2 : ((at' : Int) + (km : Int)).toNat = at' + km := by omega
                go_wp2_with (first
                  | (go_at_call 44; refine (rint_nil _ _).mono ?_; rintro e w3 ⟨rfl, rfl⟩)
                  | (go_at_call 43; refine HC43.out.mono ?_; rintro e w2 ⟨sa, sc, rfl, _, hw2⟩; have hw2s := hw2.symm; subst hw2s; clear hw2))
                refine bodyPost_ret (v := .tuple #[.agg #[.slice none 0 0, .slice none 0 0], .int .i64 0, .int .i64 5]) (by simp [results, Try.results24, go_sem, t0, t1]) rfl ?_
                exact rreadPost_err HE.out (HSet.out _ _ _ HBw.out)
              · have HC44 : Hid (Calls Try.prog 44 #[.slice (xa.map (fun x => x.add (at' + km))) (B0 - (at' + km)) (xc - (at' + km))] wr fun e w' => e = .returned (.tuple #[.int .i64 0, .int .i64 0, .int .i64 cc]) ∧ w' = wr) := h44 _ _ (tailA hRd hle hcb)
                clear hV hL hBl hMy hatb hsz hMs HA HMm HMc HMf HA0 hBw hRd HR0 HU h43 h44 ho hc1 hdd hc5
                have htn2 : ((at' : Int) + (km : Int)).toNat = at' + km := by omega
                go_wp2_with (first
                  | (go_at_call 44; refine HC44.out.mono ?_; rintro e w3 ⟨rfl, rfl⟩)
                  | (go_at_call 43; refine HC43.out.mono ?_; rintro e w2 ⟨sa, sc, rfl, _, hw2⟩; have hw2s := hw2.symm; subst hw2s; clear hw2))
                refine bodyPost_ret (v := .tuple #[.agg #[.slice none 0 0, .slice none 0 0], .int .i64 0, .int .i64 cc]) (by simp [results, Try.results24, go_sem, t0, t1]) rfl ?_
                exact rreadPost_err HE.out (HSet.out _ _ _ HBw.out)
            · rw [ho] at hMs
              have HC43 : Hid (Calls Try.prog 43 #[.slice (xa.map (fun x => x.add at')) (B0 - at') (xc - at')] wr fun e w' => ∃ sa sc, e = .returned (.tuple #[.slice sa s.length sc, .int .i64 km, .int .i64 0]) ∧ ReadsV wr (.slice sa s.length sc) s ∧ w' = wr) := h43 _ _ hc1
              rw [List.length_drop, hB] at hkm hj
              have hle : at' + km ≤ B0 := by omega
              have hdd : (b.drop at').drop km = b.drop (at' + km) := List.drop_drop ..
              rw [hdd] at h44
              have hcb : ¬ xc = at' + km := by omega
              have HC44 : Hid (Calls Try.prog 44 #[.slice (xa.map (fun x => x.add (at' + km))) (B0 - (at' + km)) (xc - (at' + km))] wr fun e w' => e = .returned (.tuple #[.int .i64 x, .int .i64 j, .int .i64 0]) ∧ w' = wr) := h44 _ _ (tailA hRd hle hcb)
              have hol := (oneM_len ho).1
              rw [List.length_drop] at hol
              have HNx : Hid (∀ w5, Vr w5 (w.heap.size + 1) (l ++ [(str s, x)]) → Below (w.heap.size + 1) wr w5 → AtR (w.heap.size + 1) n (i + 1) (at' + km + j) b0 b W1 w5) := fun w5 h1 h2 => by
                refine ⟨l ++ [(str s, x)], h1, by rw [List.length_append, hL]; rfl, hBl.trans h2, ?_, by omega, fun q hq => ?_⟩
                · rw [hMs]
                  show manyM _ ((b.drop at').drop (km + j)) _ = _
                  rw [List.drop_drop, Nat.add_assoc]
                · rcases List.mem_append.1 hq with hq | hq
                  · exact hsz q hq
                  · simp at hq; rw [hq]; show (str s).size ≤ _; rw [str_size]; omega
              obtain ⟨a5, c5, b5, d5, ht, o9, o2⟩ := hV.at
              have HT5 : Hid (Two wr (w.heap.size + 1) (.slice a5 l.length c5) (.slice b5 l.length d5)) := ht
              have HO9 : Hid (Ow wr (w.heap.size + 1 + 1) 9 (.slice a5 l.length c5) (strsV (nmsOf l))) := o9
              have HO2 : Hid (Ow wr (w.heap.size + 1 + 1) 2 (.slice b5 l.length d5) (intsV (valsOf l))) := o2
              have hpw : w.heap.size + 1 + 1 ≤ wr.heap.size := ht.lt
              obtain ⟨y4, y0, y1, y2, y3⟩ := ht
              have HL9 : Hid ((strsV (nmsOf l)).length + [Value.string (str s)].length ≤ 1000000000000) := by show _ ≤ _; rw [strsV_len, nmsOf_len, hL]; simp; omega
              have HL2 : Hid ((intsV (valsOf l)).length + [Value.int .i64 x].length ≤ 1000000000000) := by show _ ≤ _; rw [intsV_len, valsOf_len, hL]; simp; omega
              have HR9 : Hid (Rd (wr.alloc (.cells #[.string (str s)] 9)) (.slice (some ⟨wr.heap.size, 0, none⟩) 1 1) [.string (str s)]) := Rd.of_own (Ow.new wr 9 #[.string (str s)] 0 (Nat.zero_le _) (by simp))
              have H19 : Hid (∀ u ∈ [Value.string (str s)], u.oneCell' = true) := fun u hu => by simp at hu; rw [hu]; rfl
              have HR2 : Hid (∀ (w4 : World) (g : Nat), g = w4.heap.size → Rd (w4.alloc (.cells #[.int .i64 x] 2)) (.slice (some ⟨g, 0, none⟩) 1 1) [.int .i64 x]) := fun w4 g hg => by subst hg; exact Rd.of_own (Ow.new w4 2 #[.int .i64 x] 0 (Nat.zero_le _) (by simp))
              have H12 : Hid (∀ u ∈ [Value.int .i64 x], u.oneCell' = true) := fun u hu => by simp at hu; rw [hu]; rfl
              have HCs : Hid (∀ sa sc, ReadsV wr (.slice sa s.length sc) s → (convert 42 9 (.slice sa s.length sc)).run Try.prog wr = .ok (.string (str s)) wr) := fun sa sc h => convert_str h
              have htn2 : ((at' : Int) + (km : Int)).toNat = at' + km := by omega
              clear hV hL hBl hMy hatb hsz hMs HA HMm HMc HMf HA0 hBw hRd HR0 HU h43 h44 ho hc1 hdd o9 o2 hol HTr HP1 HT1
              generalize str s = sS at *
              generalize hNn : l.length = Nn at *
              go_wp2_with (first
                | (at_builtin; have := Y3; (refine wpList_append_ow rfl (.tmp 74) (.tmp 76) 23 2 rfl (w.heap.size + 1 + 1) Try.underlying23 (.int .i64 0) 8 Try.info2 (by decide) rfl _ (intsV (valsOf l)) rfl (Y3.out.2.2.1.alloc _) _ [.int .i64 x] rfl (HR2.out _ _ (size_set _ _ _).symm) H12.out HL2.out (base_le (show w.heap.size + 1 + 1 ≤ _ from Y3.out.1.lt) _) ?_); intro v2 w5 q1 q2; obtain ⟨⟨y4, y0, y1, y2, y3⟩, ⟨a2, n2, c2, rfl⟩, q3, q4⟩ := push_val Y3.out.1 Y3.out.2.1 Y3.out.2.2.1 q1 q2; have Y5 : Hid (Vr (w5.setCell ⟨w.heap.size + 1, 1, none⟩ (.slice a2 n2 c2)) (w.heap.size + 1) (l ++ [(sS, x)]) ∧ Below (w.heap.size + 1) wr (w5.setCell ⟨w.heap.size + 1, 1, none⟩ (.slice a2 n2 c2))) := ⟨q3, Y3.out.2.2.2.trans q4⟩; clear q1 q2 q3 q4 Y3)
                | (at_builtin; have := YS; refine wpList_append_ow rfl (.tmp 67) (.tmp 70) 22 9 rfl (w.heap.size + 1 + 1) Try.underlying22 (.string ⟨#[]⟩) 16 Try.info9 (by decide) rfl _ (strsV (nmsOf l)) rfl (HO9.out.alloc _) _ [.string sS] rfl HR9.out H19.out HL9.out (base_le hpw _) ?_; intro v1 w3 q1 q2; obtain ⟨⟨y4, y0, y1, y2, y3⟩, ⟨a6, n6, c6, rfl⟩, q3, q4, q5, q6⟩ := push_name HT5.out HO9.out HO2.out q1 q2; have Y3 : Hid (Two (w3.setCell ⟨w.heap.size + 1, 0, none⟩ (.slice a6 n6 c6)) (w.heap.size + 1) (.slice a6 n6 c6) (.slice b5 Nn d5) ∧ Ow (w3.setCell ⟨w.heap.size + 1, 0, none⟩ (.slice a6 n6 c6)) (w.heap.size + 1 + 1) 9 (.slice a6 n6 c6) (strsV (nmsOf l) ++ [.string sS]) ∧ Ow (w3.setCell ⟨w.heap.size + 1, 0, none⟩ (.slice a6 n6 c6)) (w.heap.size + 1 + 1) 2 (.slice b5 Nn d5) (intsV (valsOf l)) ∧ Below (w.heap.size + 1) wr (w3.setCell ⟨w.heap.size + 1, 0, none⟩ (.slice a6 n6 c6))) := ⟨q3, q4, q5, q6⟩; obtain ⟨z4, z0, z1, z2, z3⟩ := q3; clear q1 q2 q4 q5 q6 YS)
                | (go_at_call 44; refine HC44.out.mono ?_; rintro e w2b ⟨rfl, hw2⟩; have hw2s := hw2.symm; subst hw2s; clear hw2)
                | (go_at_call 43; refine HC43.out.mono ?_; rintro e w2 ⟨sa, sc, rfl, hsr, hw2⟩; have hw2s := hw2.symm; subst hw2s; have hcs := HCs.out sa sc hsr; have YS : Hid True := trivial; clear hw2 hsr))
              go_roundw
              case rel => exact ⟨i + 1, at' + km + j, by omega, by omega, by go_num, by go_num, HNx.out _ Y5.out.1 Y5.out.2⟩
              case measure => simp [intOf]; omega
        · have e : i = n := by omega
          have e' : n = i := e.symm
          clear e
          subst e'
          have hM2 : manyM n b0 [] = .ok (l, b.drop at') := by rw [hMy, Nat.sub_self]; rfl
          have HMc2 : Hid (chk (nmsOf l) (valsOf l) ≠ 0 → readM b = .error (chk (nmsOf l) (valsOf l) : Nat)) := HMc.out l _ hM2
          have HMf2 : Hid (chk (nmsOf l) (valsOf l) = 0 → readM b = .ok (l, b.drop at')) := HMf.out l _ hM2
          obtain ⟨a5, c5, b5, d5, ht, o9, o2⟩ := hV.at
          have HCk : Hid (Calls Try.prog 11 #[.agg #[.slice a5 l.length c5, .slice b5 l.length d5]] wr fun e w' => e = .returned (.int .i64 (chk (nmsOf l) (valsOf l) : Nat)) ∧ Below wr.heap.size wr w') := rCheck_any _ _ _ wr ⟨_, _, rfl, Rd.of_own o9, Rd.of_own o2⟩ (fun m hm => by
            obtain ⟨q, hq, rfl⟩ := List.mem_map.1 hm
            have := hsz q hq
            omega)
          have HS5 : Hid (∀ w', Below wr.heap.size wr w' → Two w' (w.heap.size + 1) (.slice a5 l.length c5) (.slice b5 l.length d5) ∧ Two w' w.heap.size (.slice none 0 0) (.slice none 0 0) ∧ Below w.heap.size w w' ∧ Ow w' (w.heap.size + 1 + 1) 9 (.slice a5 l.length c5) (strsV (nmsOf l)) ∧ Ow w' (w.heap.size + 1 + 1) 2 (.slice b5 l.length d5) (intsV (valsOf l))) := fun w' hb => ⟨ht.below hb, HTr.out.below hb, hBw.trans (hb.mono hBw.size), o9.below hb, o2.below hb⟩
          have hbat : at' ≤ b.length := hatb
          obtain ⟨y4, y0, y1, y2, y3⟩ := ht
          clear hV hL hBl hMy hatb hsz hM2 o9 o2 HA HMm HMc HMf HA0 hBw hRd HR0 HU HTr
          generalize hLn : l.length = L at *
          generalize chk (nmsOf l) (valsOf l) = ck at *
          by_cases h0 : ck = 0
          · have HE : Hid (readM b = .ok (l, b.drop at')) := HMf2.out h0
            subst h0
            clear HMc2 HMf2
            have HFin : Hid (∀ w4, Below wr.heap.size wr w4 → RReadPost w b (.returned (.tuple #[.agg #[.slice a5 L c5, .slice b5 L d5], .int .i64 at', .int .i64 0])) ((w4.setCell ⟨w.heap.size, 0, none⟩ (.slice a5 L c5)).setCell ⟨w.heap.size, 1, none⟩ (.slice b5 L d5))) := fun w4 hb => by
              obtain ⟨_, _, z1, z2, z3⟩ := HS5.out _ hb
              refine rreadPost_ok HE.out ⟨_, _, rfl, Rd.of_own (ownsRow_setCell_below (a := ⟨w.heap.size, 1, none⟩) (ownsRow_setCell_below (a := ⟨w.heap.size, 0, none⟩) z2 (by show w.heap.size < _; omega) _) (by show w.heap.size < _; omega) _), Rd.of_own (ownsRow_setCell_below (a := ⟨w.heap.size, 1, none⟩) (ownsRow_setCell_below (a := ⟨w.heap.size, 0, none⟩) z3 (by show w.heap.size < _; omega) _) (by show w.heap.size < _; omega) _)⟩ rfl hbat (HSet.out _ _ _ z1)
            go_wp2_with (go_at_call 11; refine HCk.out.mono ?_; rintro e w2 ⟨rfl, q1⟩; have HB2 : Hid (Below wr.heap.size wr w2) := q1; obtain ⟨⟨z4, z0, z1, z2, z3⟩, ⟨t4, t0, t1, t2, t3⟩, _⟩ := HS5.out _ q1; clear q1)
            refine bodyPost_ret (v := .tuple #[.agg #[.slice a5 L c5, .slice b5 L d5], .int .i64 at', .int .i64 0]) (by simp [results, Try.results24, go_sem, t0, t1]) rfl ?_
            exact HFin.out _ HB2.out
          · have HE : Hid (readM b = .error (ck : Nat)) := HMc2.out h0
            have hne : ¬ ((ck : Int) = 0) := by omega
            clear HMc2 HMf2
            go_wp2_with (go_at_call 11; refine HCk.out.mono ?_; rintro e w2 ⟨rfl, q1⟩; have HB2 : Hid (Below wr.heap.size wr w2) := q1; obtain ⟨⟨z4, z0, z1, z2, z3⟩, ⟨t4, t0, t1, t2, t3⟩, _⟩ := HS5.out _ q1; clear q1)
            refine bodyPost_ret (v := .tuple #[.agg #[.slice none 0 0, .slice none 0 0], .int .i64 0, .int .i64 ck]) (by simp [results, Try.results24, go_sem, t0, t1]) rfl ?_
            exact rreadPost_err HE.out (HSet.out _ _ _ (HS5.out _ HB2.out).2.2.1)
  · have HM : Hid (readM b = .error (code (.inr q))) := readM_code hk
    have HU : Hid (Calls Try.prog 42 #[.slice xa b.length xc] (w.alloc (.cells #[.slice none 0 0, .slice none 0 0] 25)) fun e w' => e = .returned (.tuple #[.int .u64 0, .int .i64 0, .int .i64 (code (.inr q))]) ∧ w' = w.alloc (.cells #[.slice none 0 0, .slice none 0 0] 25)) := rreadUint_err _ b _ _ (HR0.out _ HBa.out) (fun k e => by rw [hk] at e; cases e) (by rw [hk])
    have hne : (code (.inr q) != 0) = true := by
      have := code_ne (r := .inr q) (fun k e => by cases e)
      simp; omega
    obtain ⟨t4, t0, t1, t2, t3⟩ := tT
    clear hr HR0 hk
    generalize code (.inr q) = cc at *
    go_enter Try.func24, Try.ntmps24
    go_wp2_with (go_at_call 42; refine HU.out.mono ?_; rintro e w1 ⟨rfl, rfl⟩)
    refine bodyPost_ret (v := .tuple #[.agg #[.slice none 0 0, .slice none 0 0], .int .i64 0, .int .i64 cc]) (by simp [results, Try.results24, go_sem, t0, t1]) rfl ?_
    exact rreadPost_err HM.out HBa.out
end Go.Proofs.Ytekhfepfaegpaaa

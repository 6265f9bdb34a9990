/-
  The document's of, of any tree that has a type, and its Of.
-/
import Derived.Test.YtfjphlejhcdbaaaRvC
import Derived.Test.YtfjphlejhcdbaaaRvD
import Derived.Test.YtfjphlejhcdbaaaVB
namespace Go.Proofs.Ytfjphlejhcdbaaa
open Go.RowKit
set_option linter.unusedVariables false

theorem va_eta (a : Va) : (⟨a.b, a.n, a.e⟩ : Va) = a := rfl
theorem numV_zero {k a b : Int} (h : (twoA k a b).2 ≠ 0) : (twoA k a b).1 = 0 := by
  rcases twoA_err k a b with h1 | h1 | h1
  · exact absurd h1 h
  · rw [h1]
  · rw [h1]
theorem rof_any (l : V.VL) (v : Value) (hE : EnvIn (envL l)) : ∀ (d : Nat) (t : Tr) (P : Nat → Prop) (tv : Value) (w : World), checkM d t = 0 → tyM d t = true → Tre w P tv t → Vok l v w → Calls Try.prog 29 #[tv, v] w (EvP (evM (envL l) d t) w)
  | 0, t, P, tv, w, h, _, _, _ => by cases h
  | d + 1, t, P, tv, w, h, ht, hT, hV => by
    have hs := shape h
    obtain ⟨a, cap, rfl, hcap, hk, hn, hnm, hlen, hkids⟩ := hT.opened
    have h1 := hs.lo; have h2 := hs.hi
    have hV0 := hV
    obtain ⟨a1, n1, k1, a2, n2, k2, rfl⟩ := hV.form
    rcases hs.kids with ⟨h4, hks⟩ | ⟨h5, x, hks, hx⟩ | ⟨h7, x, y, hks, hx, hy⟩
    · rw [ev_leaf hks]
      have e0 : t.kids.length = 0 := by rw [hks]; rfl
      rw [e0]
      unfold leafV
      by_cases e1 : t.kind = 1
      · rw [if_pos e1, e1]; exact rof_num _ _ a cap a1 a2 n1 k1 n2 k2 w
      · rw [if_neg e1]
        by_cases e2 : t.kind = 2
        · rw [if_pos e2, e2]; exact rof_var l _ _ t.name a cap w hV0
        · rw [if_neg e2]; exact rof_yes _ _ (by omega) _ a cap a1 a2 n1 k1 n2 k2 w
    · obtain ⟨hty, htk⟩ := ty_one' ht hks h5
      rw [ev_one hks]
      have e0 : t.kids.length = 1 := by rw [hks]; rfl
      obtain ⟨b, o, ka, kc, hK⟩ := hkids 0 (by omega)
      have ex : t.kids.getD 0 zeroT = x := by rw [hks]; rfl
      rw [ex] at hK
      rw [e0] at hcap ⊢
      obtain ⟨rfl, m0, m1, m2, m3, hkt⟩ := hK
      rw [Nat.zero_mul, Nat.add_zero] at m0 m1 m2 m3
      have hfi : Fine (decide (t.kind = 6)) (evM (envL l) d x) := by rw [← htk]; exact ev_fine _ hE d x hx hty (tre_nums hkt d)
      have HI : Hid (∀ w', Below w.heap.size w w' → Calls Try.prog 29 #[.agg #[.int .i64 x.kind, .int .i64 x.n, .string (ba x.name), .slice ka x.kids.length kc], .agg #[.slice a1 n1 k1, .slice a2 n2 k2]] w' (EvP ⟨(evM (envL l) d x).b, (evM (envL l) d x).n, (evM (envL l) d x).e⟩ w')) := fun w' hb => rof_any l _ hE d x P _ w' hx hty (hkt.below hb) (hV0.below hb)
      unfold oneV
      by_cases h0 : (evM (envL l) d x).e = 0
      · rw [if_neg (by omega)]
        by_cases h6 : t.kind = 6
        · rw [if_pos h6, h6]
          exact rof_not _ _ b o cap _ _ _ ka _ kc a1 a2 n1 k1 n2 k2 _ _ _ h0 w hcap m0 m1 m2 m3 HI
        · rw [if_neg h6]
          have h55 : t.kind = 5 := by omega
          rw [h55]
          by_cases hy : (twoA 8 0 (evM (envL l) d x).n).2 = 0
          · exact rof_neg0 _ _ b o cap _ _ _ ka _ kc a1 a2 n1 k1 n2 k2 _ _ _ h0 _ _ hfi.num rfl hy w hcap m0 m1 m2 m3 HI
          · exact rof_neg1 _ _ b o cap _ _ _ ka _ kc a1 a2 n1 k1 n2 k2 _ _ _ h0 _ _ hfi.num rfl hy (numV_zero hy) w hcap m0 m1 m2 m3 HI
      · rw [if_pos h0]
        exact rof_err1 _ _ _ b o cap _ _ _ ka _ kc a1 a2 n1 k1 n2 k2 _ _ _ h0 w hcap m0 m1 m2 m3 HI
    · obtain ⟨htx, hty, htk⟩ := ty_two' ht hks h7
      rw [ev_two hks]
      have e0 : t.kids.length = 2 := by rw [hks]; rfl
      obtain ⟨b, o, ka, kc, hK⟩ := hkids 0 (by omega)
      obtain ⟨b2, o2, ka2, kc2, hK2⟩ := hkids 1 (by omega)
      have ex : t.kids.getD 0 zeroT = x := by rw [hks]; rfl
      have ey : t.kids.getD 1 zeroT = y := by rw [hks]; rfl
      rw [ex] at hK
      rw [ey] at hK2
      rw [e0] at hcap ⊢
      obtain ⟨rfl, m0, m1, m2, m3, hkt⟩ := hK
      obtain ⟨e2, t0, t1, t2, t3, hkt2⟩ := hK2
      injection e2 with e2
      injection e2 with e3 e4 e5
      subst e3
      subst e4
      rw [Nat.zero_mul, Nat.add_zero] at m0 m1 m2 m3
      rw [Nat.one_mul] at t0 t1 t2 t3
      have hfx := ev_fine _ hE d x hx htx (tre_nums hkt d)
      have hfy := ev_fine _ hE d y hy hty (tre_nums hkt2 d)
      have HI : Hid (∀ w', Below w.heap.size w w' → Calls Try.prog 29 #[.agg #[.int .i64 x.kind, .int .i64 x.n, .string (ba x.name), .slice ka x.kids.length kc], .agg #[.slice a1 n1 k1, .slice a2 n2 k2]] w' (EvP ⟨(evM (envL l) d x).b, (evM (envL l) d x).n, (evM (envL l) d x).e⟩ w')) := fun w' hb => rof_any l _ hE d x P _ w' hx htx (hkt.below hb) (hV0.below hb)
      have HJ : Hid (∀ w', Below w.heap.size w w' → Calls Try.prog 29 #[.agg #[.int .i64 y.kind, .int .i64 y.n, .string (ba y.name), .slice ka2 y.kids.length kc2], .agg #[.slice a1 n1 k1, .slice a2 n2 k2]] w' (EvP ⟨(evM (envL l) d y).b, (evM (envL l) d y).n, (evM (envL l) d y).e⟩ w')) := fun w' hb => rof_any l _ hE d y P _ w' hy hty (hkt2.below hb) (hV0.below hb)
      unfold twoV
      by_cases h0 : (evM (envL l) d x).e = 0
      · rw [if_neg (by omega)]
        by_cases hst : t.kind = 13 ∧ (evM (envL l) d x).n = 0 ∨ t.kind = 14 ∧ (evM (envL l) d x).n = 1
        · rw [if_pos hst]
          have ea : evM (envL l) d x = ⟨(evM (envL l) d x).b, (evM (envL l) d x).n, 0⟩ := Va.ext' rfl rfl h0
          rcases hst with ⟨hk13, hx0⟩ | ⟨hk14, hx1⟩
          · rw [hk13, ea]
            exact rof_stop13 _ _ b o cap _ _ _ ka _ kc _ _ _ ka2 _ kc2 a1 a2 n1 k1 n2 k2 _ _ _ h0 hx0 _ _ _ w hcap m0 m1 m2 m3 t0 t1 t2 t3 HI HJ
          · rw [hk14, ea]
            exact rof_stop14 _ _ b o cap _ _ _ ka _ kc _ _ _ ka2 _ kc2 a1 a2 n1 k1 n2 k2 _ _ _ h0 hx1 _ _ _ w hcap m0 m1 m2 m3 t0 t1 t2 t3 HI HJ
        · rw [if_neg hst]
          by_cases hb : (evM (envL l) d y).e = 0
          · rw [if_neg (by omega)]
            have eb : evM (envL l) d y = ⟨(evM (envL l) d y).b, (evM (envL l) d y).n, 0⟩ := Va.ext' rfl rfl hb
            by_cases hk13 : t.kind = 13
            · rw [if_pos (.inl hk13), hk13, eb]
              exact rof_goes13 _ _ b o cap _ _ _ ka _ kc _ _ _ ka2 _ kc2 a1 a2 n1 k1 n2 k2 _ _ _ h0 (by omega) _ _ _ hb w hcap m0 m1 m2 m3 t0 t1 t2 t3 HI HJ
            · by_cases hk14 : t.kind = 14
              · rw [if_pos (.inr hk14), hk14, eb]
                exact rof_goes14 _ _ b o cap _ _ _ ka _ kc _ _ _ ka2 _ kc2 a1 a2 n1 k1 n2 k2 _ _ _ h0 (by omega) _ _ _ hb w hcap m0 m1 m2 m3 t0 t1 t2 t3 HI HJ
              · rw [if_neg (by omega)]
                by_cases hk11 : t.kind = 11
                · rw [if_pos hk11, hk11]
                  exact rof_eq _ _ b o cap _ _ _ ka _ kc _ _ _ ka2 _ kc2 a1 a2 n1 k1 n2 k2 _ _ _ h0 _ _ _ hb w hcap m0 m1 m2 m3 t0 t1 t2 t3 HI HJ
                · rw [if_neg hk11]
                  by_cases hk12 : t.kind = 12
                  · rw [if_pos hk12, hk12]
                    exact rof_lt _ _ b o cap _ _ _ ka _ kc _ _ _ ka2 _ kc2 a1 a2 n1 k1 n2 k2 _ _ _ h0 _ _ _ hb w hcap m0 m1 m2 m3 t0 t1 t2 t3 HI HJ
                  · rw [if_neg hk12]
                    by_cases hz : (twoA t.kind (evM (envL l) d x).n (evM (envL l) d y).n).2 = 0
                    · exact rof_two0 _ _ _ b o cap _ _ _ ka _ kc _ _ _ ka2 _ kc2 a1 a2 n1 k1 n2 k2 _ _ _ h0 _ _ _ hb ⟨h7, by omega⟩ _ _ hfx.num hfy.num rfl hz w hcap m0 m1 m2 m3 t0 t1 t2 t3 HI HJ
                    · exact rof_two1 _ _ _ b o cap _ _ _ ka _ kc _ _ _ ka2 _ kc2 a1 a2 n1 k1 n2 k2 _ _ _ h0 _ _ _ hb ⟨h7, by omega⟩ _ _ hfx.num hfy.num rfl hz (numV_zero hz) w hcap m0 m1 m2 m3 t0 t1 t2 t3 HI HJ
          · rw [if_pos hb]
            by_cases hk13 : t.kind = 13
            · rw [hk13]
              exact rof_errb13 _ _ b o cap _ _ _ ka _ kc _ _ _ ka2 _ kc2 a1 a2 n1 k1 n2 k2 _ _ _ h0 (by omega) _ _ _ hb w hcap m0 m1 m2 m3 t0 t1 t2 t3 HI HJ
            · by_cases hk14 : t.kind = 14
              · rw [hk14]
                exact rof_errb14 _ _ b o cap _ _ _ ka _ kc _ _ _ ka2 _ kc2 a1 a2 n1 k1 n2 k2 _ _ _ h0 (by omega) _ _ _ hb w hcap m0 m1 m2 m3 t0 t1 t2 t3 HI HJ
              · exact rof_errbk _ _ _ b o cap _ _ _ ka _ kc _ _ _ ka2 _ kc2 a1 a2 n1 k1 n2 k2 _ _ _ h0 ⟨h7, by omega⟩ _ _ _ hb w hcap m0 m1 m2 m3 t0 t1 t2 t3 HI HJ
      · rw [if_pos h0]
        exact rof_err2 _ _ _ b o cap _ _ _ ka _ kc _ _ _ ka2 _ kc2 a1 a2 n1 k1 n2 k2 _ _ _ h0 _ _ _ w hcap m0 m1 m2 m3 t0 t1 t2 t3 HI HJ
theorem RTruth_in {w : World} {t : Tr} {k n : Int} {s : ByteArray} {a : Option Addr} {l c : Nat} (h : Tin w t k n s a l c) : Calls Try.prog 16 #[.agg #[.int .i64 k, .int .i64 n, .string s, .slice a l c]] w fun e w' => e = .returned (.tuple #[.bool (truthM t).1, .int .i64 ((truthM t).2 : Nat)]) ∧ Below w.heap.size w w' := by
  obtain ⟨P, hT⟩ := h.tre
  obtain ⟨a', cap, e⟩ := hT.four
  have ek : k = t.kind := by
    have := congrArg (fun v => match v with | .agg cs => cs[0]? | _ => none) e
    simpa using this
  subst ek
  exact RTruth_any P t n s a l c w hT
set_option maxRecDepth 100000 in
set_option maxHeartbeats 800000 in
theorem rof10_err1 (t : Tr) (k n : Int) (s : ByteArray) (a : Option Addr) (l c : Nat) (v : Value) (ns : List ByteArray) (vs : List Int) (w : World) (hT : Tin w t k n s a l c) (hV : Vin w v ns vs) (h0 : (truthM t).2 ≠ 0) : Calls Try.prog 12 #[.agg #[.int .i64 k, .int .i64 n, .string s, .slice a l c], v] w (EvP (errV (truthM t).2) w) := by
  obtain ⟨a1, n1, k1, a2, n2, k2, rfl⟩ := hV.form
  have HT : Hid (∀ w, Tin w t k n s a l c → Calls Try.prog 16 #[.agg #[.int .i64 k, .int .i64 n, .string s, .slice a l c]] w fun e w' => e = .returned (.tuple #[.bool (truthM t).1, .int .i64 ((truthM t).2 : Nat)]) ∧ Below w.heap.size w w') := fun w h => RTruth_in h
  have HI : Hid (Tin w t k n s a l c) := hT
  have HO : Hid (Own3 w _ (.int .i64 k) (.int .i64 n) (.string s) (.slice a l c) (.slice a1 n1 k1) (.slice a2 n2 k2)) := Own3.new w _ _ _ _ _ _
  have hz := nz h0
  clear hV hT
  unfold EvP errV
  simp only
  generalize (truthM t).2 = te at *
  generalize (truthM t).1 = tb at *
  go_enter Try.func12, Try.ntmps12
  go_wp2_with (go_at_call 16; refine (HT.out _ (HI.out.below HO.out.low)).mono ?_; rintro e w1 ⟨rfl, HB1⟩; have H1 : Hid (Own3 w w1 (.int .i64 k) (.int .i64 n) (.string s) (.slice a l c) (.slice a1 n1 k1) (.slice a2 n2 k2)) := HO.out.below HB1; clear HB1; obtain ⟨g1, c0, c1, f0, f1⟩ := H1.out.r)
  refine bodyPost_ret (v := .tuple #[.agg #[.bool false, .int .i64 0], .int .i64 (te : Nat)]) (by simp [results, Try.results12, go_sem, c0, c1]) rfl ⟨rfl, H1.out.put _ _⟩
set_option maxRecDepth 100000 in
set_option maxHeartbeats 800000 in
theorem rof10_err2 (t : Tr) (k n : Int) (s : ByteArray) (a : Option Addr) (l c : Nat) (v : Value) (ns : List ByteArray) (vs : List Int) (w : World) (hT : Tin w t k n s a l c) (hV : Vin w v ns vs) (h0 : (truthM t).2 = 0) (h1 : V.chk ns vs ≠ 0) : Calls Try.prog 12 #[.agg #[.int .i64 k, .int .i64 n, .string s, .slice a l c], v] w (EvP (errV (V.chk ns vs)) w) := by
  have HC : Hid (∀ w, Vin w v ns vs → Calls Try.prog 15 #[v] w fun e w' => e = .returned (.int .i64 (V.chk ns vs : Nat)) ∧ Below w.heap.size w w') := fun w h => V.rCheck_any ns vs v w h.rd h.sz
  have HV : Hid (Vin w v ns vs) := hV
  obtain ⟨a1, n1, k1, a2, n2, k2, rfl⟩ := hV.form
  have HT : Hid (∀ w, Tin w t k n s a l c → Calls Try.prog 16 #[.agg #[.int .i64 k, .int .i64 n, .string s, .slice a l c]] w fun e w' => e = .returned (.tuple #[.bool (truthM t).1, .int .i64 ((truthM t).2 : Nat)]) ∧ Below w.heap.size w w') := fun w h => RTruth_in h
  rw [h0] at HT
  have HI : Hid (Tin w t k n s a l c) := hT
  have HO : Hid (Own3 w _ (.int .i64 k) (.int .i64 n) (.string s) (.slice a l c) (.slice a1 n1 k1) (.slice a2 n2 k2)) := Own3.new w _ _ _ _ _ _
  have hz := nz h1
  clear hV hT
  unfold EvP errV
  simp only
  generalize V.chk ns vs = ck at *
  generalize (truthM t).1 = tb at *
  go_enter Try.func12, Try.ntmps12
  go_wp2_with (first
    | (go_at_call 16; refine (HT.out _ (HI.out.below HO.out.low)).mono ?_; rintro e w1 ⟨rfl, HB1⟩; have H1 : Hid (Own3 w w1 (.int .i64 k) (.int .i64 n) (.string s) (.slice a l c) (.slice a1 n1 k1) (.slice a2 n2 k2)) := HO.out.below HB1; clear HB1; obtain ⟨g1, c0, c1, f0, f1⟩ := H1.out.v)
    | (go_at_call 15; refine (HC.out _ (HV.out.below H1.out.low)).mono ?_; rintro e w2 ⟨rfl, HB2⟩; have H2 : Hid (Own3 w w2 (.int .i64 k) (.int .i64 n) (.string s) (.slice a l c) (.slice a1 n1 k1) (.slice a2 n2 k2)) := H1.out.below HB2; clear HB2; obtain ⟨g1, c0, c1, f0, f1⟩ := H2.out.r))
  refine bodyPost_ret (v := .tuple #[.agg #[.bool false, .int .i64 0], .int .i64 (ck : Nat)]) (by simp [results, Try.results12, go_sem, c0, c1]) rfl ⟨rfl, H2.out.put _ _⟩
set_option maxRecDepth 100000 in
set_option maxHeartbeats 1200000 in
theorem rof10_run (t : Tr) (k n : Int) (s : ByteArray) (a : Option Addr) (l c : Nat) (v : Value) (ns : List ByteArray) (vs : List Int) (w : World) (hT : Tin w t k n s a l c) (hV : Vin w v ns vs) (h0 : (truthM t).2 = 0) (h1 : V.chk ns vs = 0) : Calls Try.prog 12 #[.agg #[.int .i64 k, .int .i64 n, .string s, .slice a l c], v] w (EvP (evM (envN ns vs) 16 t) w) := by
  have HC : Hid (∀ w, Vin w v ns vs → Calls Try.prog 15 #[v] w fun e w' => e = .returned (.int .i64 (V.chk ns vs : Nat)) ∧ Below w.heap.size w w') := fun w h => V.rCheck_any ns vs v w h.rd h.sz
  have HV : Hid (Vin w v ns vs) := hV
  have HP : Hid (∀ w, Tin w t k n s a l c → Vin w v ns vs → Calls Try.prog 29 #[.agg #[.int .i64 k, .int .i64 n, .string s, .slice a l c], v] w (EvP (evM (envN ns vs) 16 t) w)) := fun w h h2 => by
    obtain ⟨P, hT⟩ := h.tre
    exact rof_any (V.zipV (ns, vs)) v (envN_in hV.num) 16 t P _ w (truth_typed h0).1 (truth_typed h0).2 hT (vok_of h2.rd h1)
  obtain ⟨a1, n1, k1, a2, n2, k2, rfl⟩ := hV.form
  have HT : Hid (∀ w, Tin w t k n s a l c → Calls Try.prog 16 #[.agg #[.int .i64 k, .int .i64 n, .string s, .slice a l c]] w fun e w' => e = .returned (.tuple #[.bool (truthM t).1, .int .i64 ((truthM t).2 : Nat)]) ∧ Below w.heap.size w w') := fun w h => RTruth_in h
  rw [h0] at HT
  rw [h1] at HC
  have HI : Hid (Tin w t k n s a l c) := hT
  have HO : Hid (Own3 w _ (.int .i64 k) (.int .i64 n) (.string s) (.slice a l c) (.slice a1 n1 k1) (.slice a2 n2 k2)) := Own3.new w _ _ _ _ _ _
  clear hV hT h0 h1
  generalize evM (envN ns vs) 16 t = r at *
  generalize (truthM t).1 = tb at *
  obtain ⟨rb, rn, re⟩ := r
  unfold EvP at *
  simp only at *
  go_enter Try.func12, Try.ntmps12
  go_wp2_with (first
    | (go_at_call 16; refine (HT.out _ (HI.out.below HO.out.low)).mono ?_; rintro e w1 ⟨rfl, HB1⟩; have H1 : Hid (Own3 w w1 (.int .i64 k) (.int .i64 n) (.string s) (.slice a l c) (.slice a1 n1 k1) (.slice a2 n2 k2)) := HO.out.below HB1; clear HB1; obtain ⟨g1, c0, c1, f0, f1⟩ := H1.out.v)
    | (go_at_call 15; refine (HC.out _ (HV.out.below H1.out.low)).mono ?_; rintro e w2 ⟨rfl, HB2⟩; have H2 : Hid (Own3 w w2 (.int .i64 k) (.int .i64 n) (.string s) (.slice a l c) (.slice a1 n1 k1) (.slice a2 n2 k2)) := H1.out.below HB2; clear HB2; obtain ⟨g1, c0, c1, f0, f1⟩ := H2.out.v; obtain ⟨q0, q1, q2, q3, q4⟩ := H2.out.t)
    | (go_at_call 29; refine (HP.out _ (HI.out.below H2.out.low) (HV.out.below H2.out.low)).mono ?_; rintro e w3 ⟨rfl, HB3⟩; have H3 : Hid (Own3 w w3 (.int .i64 k) (.int .i64 n) (.string s) (.slice a l c) (.slice a1 n1 k1) (.slice a2 n2 k2)) := H2.out.below HB3; clear HB3; obtain ⟨g1, c0, c1, f0, f1⟩ := H3.out.r))
  refine bodyPost_ret (v := .tuple #[.agg #[.bool rb, .int .i64 rn], .int .i64 (re : Nat)]) (by simp [results, Try.results12, go_sem, c0, c1]) rfl ⟨rfl, H3.out.put _ _⟩
theorem ROf_any (t : Tr) (k n : Int) (s : ByteArray) (a : Option Addr) (l c : Nat) (v : Value) (ns : List ByteArray) (vs : List Int) (w : World) (hT : Tin w t k n s a l c) (hV : Vin w v ns vs) : Calls Try.prog 12 #[.agg #[.int .i64 k, .int .i64 n, .string s, .slice a l c], v] w (EvP (ofM (envN ns vs) (V.chk ns vs) t) w) := by
  unfold ofM
  by_cases h0 : (truthM t).2 = 0
  · rw [if_neg (by omega)]
    by_cases h1 : V.chk ns vs = 0
    · rw [if_neg (by omega)]; exact rof10_run t k n s a l c v ns vs w hT hV h0 h1
    · rw [if_pos h1]; exact rof10_err2 t k n s a l c v ns vs w hT hV h0 h1
  · rw [if_pos h0]; exact rof10_err1 t k n s a l c v ns vs w hT hV h0
end Go.Proofs.Ytfjphlejhcdbaaa

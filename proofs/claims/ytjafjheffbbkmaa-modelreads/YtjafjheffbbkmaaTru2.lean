/-
  What a tree comes to: contracts (Truth, and the document's).
-/
import Derived.Test.YtjafjheffbbkmaaTru
namespace Go.Proofs.Ytjafjheffbbkmaa
open Go.RowKit
set_option linter.unusedVariables false


theorem sgM_le (k : Int) (p : Nat) : sgM k p ≤ 2 := by unfold sgM; repeat' split
                                                       all_goals omega
theorem ctM_le : ∀ (d : Nat) (t : Tr), ctM d t ≤ 2
  | 0, _ => by unfold ctM; omega
  | d + 1, t => by
    unfold ctM
    split
    · omega
    · split
      · omega
      · split
        · omega
        · split
          · exact sgM_le _ _
          · omega
theorem ctM_one {d : Nat} {t : Tr} (h : t.kind = 1 ∨ t.kind = 2) : ctM (d + 1) t = 1 := by unfold ctM; rw [if_pos h]
theorem ctM_two {d : Nat} {t : Tr} (h : t.kind = 3 ∨ t.kind = 4) : ctM (d + 1) t = 2 := by unfold ctM; rw [if_neg (by omega), if_pos h]
theorem all_getD {f : Tr → Nat} {p : Nat} {r : List Tr} (h : ∀ j, j < r.length → f (r.getD j zeroT) = p) : r.all (fun y => f y == p) = true := by
  rw [List.all_eq_true]
  intro x hx
  obtain ⟨j, hj, e⟩ := List.getElem_of_mem hx
  have := h j hj
  rw [List.getD_eq_getElem?_getD, List.getElem?_eq_getElem hj] at this
  simp only [Option.getD_some, e] at this
  simp [this]
theorem not_all_getD {f : Tr → Nat} {p : Nat} {r : List Tr} {j : Nat} (hj : j < r.length) (h : f (r.getD j zeroT) ≠ p) : r.all (fun y => f y == p) = false := by
  rw [List.all_eq_false]
  refine ⟨r[j], List.getElem_mem hj, ?_⟩
  rw [List.getD_eq_getElem?_getD, List.getElem?_eq_getElem hj] at h
  simpa using h
def Comes (d : Nat) : Prop := ∀ (P : Nat → Prop) (t : Tr) (v : Value) (w : World), checkM d t = 0 → Tre w P v t →
  Calls Try.prog 107 #[v] w fun e w' => e = .returned (.int .i64 (ctM d t)) ∧ Below w.heap.size w w'
theorem comes_zero : Comes 0 := fun P t v w h => by cases h
set_option maxRecDepth 100000 in
set_option maxHeartbeats 1000000 in
theorem comes_succ (d : Nat) (ih : Comes d) : Comes (d + 1) := by
  intro P t v w hck hT
  have HT : Hid (Tre w P v t) := hT
  obtain ⟨a, cap, rfl, hcap, hk, hn, hnm, hlen, hkids⟩ := hT.opened
  have hs := shape hck
  by_cases e1 : t.kind = 1
  · rw [ctM_one (.inl e1), e1]
    generalize ba t.name = ts at *
    clear hkids HT hT
    go_enter Try.func107, Try.ntmps107
    go_wp2
    go_ret
    exact ⟨rfl, (Below.refl _ _).alloc (Nat.le_refl _) _⟩
  by_cases e2 : t.kind = 2
  · rw [ctM_one (.inr e2), e2]
    generalize ba t.name = ts at *
    clear hkids HT hT
    go_enter Try.func107, Try.ntmps107
    go_wp2
    go_ret
    exact ⟨rfl, (Below.refl _ _).alloc (Nat.le_refl _) _⟩
  by_cases e3 : t.kind = 3
  · rw [ctM_two (.inl e3), e3]
    generalize ba t.name = ts at *
    clear hkids HT hT
    go_enter Try.func107, Try.ntmps107
    go_wp2
    go_ret
    exact ⟨rfl, (Below.refl _ _).alloc (Nat.le_refl _) _⟩
  by_cases e4 : t.kind = 4
  · rw [ctM_two (.inr e4), e4]
    generalize ba t.name = ts at *
    clear hkids HT hT
    go_enter Try.func107, Try.ntmps107
    go_wp2
    go_ret
    exact ⟨rfl, (Below.refl _ _).alloc (Nat.le_refl _) _⟩
  obtain ⟨x, r, hxr, hx0, hr0⟩ : ∃ x r, t.kids = x :: r ∧ checkM d x = 0 ∧ ∀ y ∈ r, checkM d y = 0 := by
    have hl := hs.lo
    rcases hs.kids with ⟨h, _⟩ | ⟨_, x, h1, h2⟩ | ⟨_, x, y, h1, h2, h3⟩
    · omega
    · exact ⟨x, [], h1, h2, by simp⟩
    · exact ⟨x, [y], h1, h2, by simpa using h3⟩
  have HE : Hid (ctM (d + 1) t = if r.all (fun y => ctM d y == ctM d x) then sgM t.kind (ctM d x) else 0) := by
    unfold Hid
    conv => lhs; unfold ctM
    rw [if_neg (by omega), if_neg (by omega), hxr]
  have HI : Hid (∀ (y : Tr) (v : Value) (w : World), checkM d y = 0 → Tre w P v y → Calls Try.prog 107 #[v] w fun e w' => e = .returned (.int .i64 (ctM d y)) ∧ Below w.heap.size w w') := fun y v w h1 h2 => ih P y v w h1 h2
  rw [hxr] at hkids hcap hlen
  rw [hxr]
  have HK : Hid (∀ i, i < (x :: r).length → ∃ b o ka kc, KidAt w P a i ((x :: r).getD i zeroT) b o ka kc) := hkids
  have HR0 : Hid (∀ y ∈ r, checkM d y = 0) := hr0
  have HX0 : Hid (checkM d x = 0) := hx0
  have hpl := ctM_le d x
  have HSg : Hid (∀ w, Calls Try.prog 108 #[.int .i64 t.kind, .int .i64 (ctM d x)] w fun e w' => e = .returned (.int .i64 (sgM t.kind (ctM d x))) ∧ w' = w) := fun w => sign_any t.kind (ctM d x) hpl w
  generalize ctM (d + 1) t = res at *
  clear hkids hT ih hk hn hnm hs hck hxr hr0 hx0 HT
  generalize t.n = tn at *
  generalize ba t.name = ts at *
  generalize t.kind = tk at *
  simp only [List.length_cons] at hcap hlen ⊢
  obtain ⟨b, o, ka, kc, hKA⟩ := HK.out 0 (by simp)
  obtain ⟨rfl, k0, k1, k2, k3, hkt⟩ := hKA
  simp only [List.getD_cons_zero, Nat.zero_mul, Nat.add_zero] at k0 k1 k2 k3 hkt
  have hbl : b < w.heap.size := World.block_lt_of_cell? w _ k0
  have HKT : Hid (Tre w P (.agg #[.int .i64 x.kind, .int .i64 x.n, .string (ba x.name), .slice ka x.kids.length kc]) x) := hkt
  have HC : Hid (∀ w, Tre w P (.agg #[.int .i64 x.kind, .int .i64 x.n, .string (ba x.name), .slice ka x.kids.length kc]) x → Calls Try.prog 107 #[.agg #[.int .i64 x.kind, .int .i64 x.n, .string (ba x.name), .slice ka x.kids.length kc]] w fun e w' => e = .returned (.int .i64 (ctM d x)) ∧ Below w.heap.size w w') := fun w h => HI.out x _ w HX0.out h
  clear hkt
  generalize ctM d x = p at *
  generalize x.kind = xk at *
  generalize x.n = xn at *
  generalize ba x.name = xs at *
  generalize x.kids.length = xl at *
  by_cases hc1 : cap = 1
  · subst hc1
    obtain rfl : r = [] := List.length_eq_zero_iff.1 (by omega)
    go_enter Try.func107, Try.ntmps107
    go_wp2_with (go_at_call 107; refine (HC.out _ (HKT.out.alloc _)).mono ?_; rintro e w1 ⟨rfl, HB⟩; obtain ⟨q0, q1, q2, q3, q4⟩ := (Cell4.new w (.int .i64 tk) (.int .i64 tn) (.string ts) (.slice (some ⟨b, o, none⟩) 1 1) 31).below HB; have HB1 : Hid (Below w.heap.size w w1) := ((Below.refl _ _).alloc (Nat.le_refl _) _).trans (HB.mono (by rw [size_alloc]; omega)); have hl1 : w.heap.size < w1.heap.size := World.block_lt_of_cell? _ _ q0; clear HB)
    go_loopw [23] (fun v wr => v = .int .i64 0 ∧ w1 = wr) (fun _ _ => 0)
    case atStart => exact ⟨rfl, rfl⟩
    case round =>
      obtain ⟨rfl, rfl⟩ := hrel
      go_wp2_with (go_at_call 108; refine (HSg.out _).mono ?_; rintro e w4 ⟨rfl, rfl⟩)
      go_ret
      exact ⟨by rw [HE.out]; rfl, HB1.out⟩
  · go_enter Try.func107, Try.ntmps107
    go_wp2_with (go_at_call 107; refine (HC.out _ (HKT.out.alloc _)).mono ?_; rintro e w1 ⟨rfl, HB⟩; obtain ⟨q0, q1, q2, q3, q4⟩ := (Cell4.new w (.int .i64 tk) (.int .i64 tn) (.string ts) (.slice (some ⟨b, o, none⟩) (r.length + 1) cap) 31).below HB; have HB1 : Hid (Below w.heap.size w w1) := ((Below.refl _ _).alloc (Nat.le_refl _) _).trans (HB.mono (by rw [size_alloc]; omega)); have hl1 : w.heap.size < w1.heap.size := World.block_lt_of_cell? _ _ q0; clear HB)
    go_loopw [23] (fun v wr => ∃ (i : Nat), i ≤ r.length ∧ v = .int .i64 i ∧ Hid (Below w.heap.size w wr ∧ Cell4 wr w.heap.size (.int .i64 tk) (.int .i64 tn) (.string ts) (.slice (some ⟨b, o, none⟩) (r.length + 1) cap) ∧ ∀ j, j < i → ctM d (r.getD j zeroT) = p)) (fun v _ => r.length - (intOf v).toNat)
    case atStart => exact ⟨0, Nat.zero_le _, rfl, HB1.out, ⟨q0, q1, q2, q3, q4⟩, fun j hj => absurd hj (by omega)⟩
    case round =>
      obtain ⟨i, hi, rfl, HR⟩ := hrel
      by_cases hlt : i < r.length
      · obtain ⟨b2, o2, ka2, kc2, hKA2⟩ := HK.out (i + 1) (by simpa using hlt)
        have HKA : Hid (KidAt wr P (some ⟨b, o, none⟩) (i + 1) ((x :: r).getD (i + 1) zeroT) b2 o2 ka2 kc2) := hKA2.below HR.out.1
        have e := HKA.out.ad
        simp only [Option.some.injEq, Addr.mk.injEq, and_true] at e
        obtain ⟨rfl, rfl⟩ := e
        have HY0 : Hid (checkM d (r.getD i zeroT) = 0) := HR0.out _ (by rw [List.getD_eq_getElem?_getD, List.getElem?_eq_getElem hlt]; exact List.getElem_mem hlt)
        obtain ⟨_, m0, m1, m2, m3, hkt2⟩ := HKA.out
        simp only [List.getD_cons_succ] at m0 m1 m2 m3 hkt2
        rw [show o + (i + 1) * 4 = o + 4 + i * 4 by omega] at m0 m1 m2 m3
        have hbl2 : b < wr.heap.size := World.block_lt_of_cell? wr _ m0
        have HQ : Hid (∀ k, ctM d (r.getD i zeroT) = k → k = p → ∀ j, j < i + 1 → ctM d (r.getD j zeroT) = p) := fun k h1 h2 j hj => by
          rcases Nat.lt_succ_iff_lt_or_eq.1 hj with h | h
          · exact HR.out.2.2 j h
          · rw [h, h1, h2]
        have HQ2 : Hid (∀ k, ctM d (r.getD i zeroT) = k → k ≠ p → r.all (fun y => ctM d y == p) = false) := fun k h1 h2 => not_all_getD hlt (by rw [h1]; exact h2)
        have hyl := ctM_le d (r.getD i zeroT)
        have HKT2 : Hid (Tre wr P (.agg #[.int .i64 (r.getD i zeroT).kind, .int .i64 (r.getD i zeroT).n, .string (ba (r.getD i zeroT).name), .slice ka2 (r.getD i zeroT).kids.length kc2]) (r.getD i zeroT)) := hkt2
        have HC2 : Hid (∀ w, Tre w P (.agg #[.int .i64 (r.getD i zeroT).kind, .int .i64 (r.getD i zeroT).n, .string (ba (r.getD i zeroT).name), .slice ka2 (r.getD i zeroT).kids.length kc2]) (r.getD i zeroT) → Calls Try.prog 107 #[.agg #[.int .i64 (r.getD i zeroT).kind, .int .i64 (r.getD i zeroT).n, .string (ba (r.getD i zeroT).name), .slice ka2 (r.getD i zeroT).kids.length kc2]] w fun e w' => e = .returned (.int .i64 (ctM d (r.getD i zeroT))) ∧ Below w.heap.size w w') := fun w h => HI.out _ _ w HY0.out h
        obtain ⟨q0, q1, q2, q3, q4⟩ := HR.out.2.1
        clear hkt2 hKA2 HKA
        generalize hcy : ctM d (r.getD i zeroT) = y at *
        generalize (r.getD i zeroT).kind = yk at *
        generalize (r.getD i zeroT).n = yn at *
        generalize ba (r.getD i zeroT).name = ys at *
        generalize (r.getD i zeroT).kids.length = yl at *
        by_cases hyp : y = p
        · subst hyp
          go_wp2_with (go_at_call 107; refine (HC2.out _ (HKT2.out.alloc _)).mono ?_; rintro e w3 ⟨rfl, HB⟩; have HB3 : Hid (Below w.heap.size w w3 ∧ Cell4 w3 w.heap.size (.int .i64 tk) (.int .i64 tn) (.string ts) (.slice (some ⟨b, o, none⟩) (r.length + 1) cap)) := ⟨(HR.out.1.alloc HR.out.1.size _).trans (HB.mono (by rw [size_alloc]; have := HR.out.1.size; omega)), (HR.out.2.1.alloc _).below HB⟩; clear HB)
          go_roundw
          case rel => exact ⟨i + 1, by omega, by go_num, HB3.out.1, HB3.out.2, HQ.out y rfl rfl⟩
          case measure => simp [intOf]; omega
        · have hc1 : ((y : Int) != (p : Int)) = true := by simp; omega
          go_wp2_with (go_at_call 107; refine (HC2.out _ (HKT2.out.alloc _)).mono ?_; rintro e w3 ⟨rfl, HB⟩; have HB3 : Hid (Below w.heap.size w w3) := (HR.out.1.alloc HR.out.1.size _).trans (HB.mono (by rw [size_alloc]; have := HR.out.1.size; omega)); clear HB)
          go_ret
          refine ⟨?_, HB3.out⟩
          rw [HE.out, HQ2.out y rfl hyp]; rfl
      · have he : i = r.length := by omega
        subst he
        have HEa : Hid (r.all (fun y => ctM d y == p) = true) := all_getD HR.out.2.2
        obtain ⟨q0, q1, q2, q3, q4⟩ := HR.out.2.1
        have HB3 : Hid (Below w.heap.size w wr) := HR.out.1
        clear HR
        go_wp2_with (go_at_call 108; refine (HSg.out _).mono ?_; rintro e w4 ⟨rfl, rfl⟩)
        go_ret
        refine ⟨?_, HB3.out⟩
        rw [HE.out, HEa.out]; rfl
theorem comes_any : ∀ d, Comes d
  | 0 => comes_zero
  | d + 1 => comes_succ d (comes_any d)
def truthM (t : Tr) : Bool × Nat := if checkM 16 t ≠ 0 then (false, checkM 16 t) else if tyM 16 t = true then (truthK t.kind, 0) else (false, 7)
set_option maxRecDepth 100000 in
set_option maxHeartbeats 800000 in
theorem Truth_any (P : Nat → Prop) (t : Tr) (k n : Int) (s : ByteArray) (a : Option Addr) (l c : Nat) (w : World) (hT : Tre w P (.agg #[.int .i64 k, .int .i64 n, .string s, .slice a l c]) t) :
    Calls Try.prog 103 #[.agg #[.int .i64 k, .int .i64 n, .string s, .slice a l c]] w fun e w' => e = .returned (.tuple #[.bool (truthM t).1, .int .i64 (truthM t).2]) ∧ Below w.heap.size w w' := by
  have HC : Hid (∀ w, Tre w P (.agg #[.int .i64 k, .int .i64 n, .string s, .slice a l c]) t → Calls Try.prog 39 #[.agg #[.int .i64 k, .int .i64 n, .string s, .slice a l c]] w fun e w' => e = .returned (.int .i64 (checkM 16 t)) ∧ Below w.heap.size w w') := fun w h => Check_any P t k n s a l c w h
  have HT : Hid (Tre w P (.agg #[.int .i64 k, .int .i64 n, .string s, .slice a l c]) t) := hT
  clear hT
  by_cases h0 : checkM 16 t = 0
  · have HD : Hid (∀ w, Tre w P (.agg #[.int .i64 k, .int .i64 n, .string s, .slice a l c]) t → Calls Try.prog 107 #[.agg #[.int .i64 k, .int .i64 n, .string s, .slice a l c]] w fun e w' => e = .returned (.int .i64 (ctM 16 t)) ∧ Below w.heap.size w w') := fun w h => comes_any 16 P t _ w h0 h
    have he : truthM t = if tyM 16 t = true then (truthK t.kind, 0) else (false, 7) := by unfold truthM; rw [if_neg (by omega)]
    have hct := ct_ty 16 t h0
    rw [h0] at HC
    rw [he]
    cases hty : tyM 16 t with
    | false =>
      have hp : ((ctM 16 t : Nat) : Int) = 0 := by rw [hct, hty]; rfl
      rw [hp] at HD
      simp only [if_false, Bool.false_eq_true]
      go_enter Try.func103, Try.ntmps103
      go_wp2_with (first
        | (go_at_call 107; have := HB1; refine (HD.out _ ((HT.out.alloc _).below HB1.out)).mono ?_; rintro e w2 ⟨rfl, HB⟩; have HB2 : Hid (Below w.heap.size w w2) := (((Below.refl _ _).alloc (Nat.le_refl _) _).trans (HB1.out.mono (le_alloc _ _))).trans (HB.mono (Nat.le_trans (le_alloc _ _) HB1.out.size)); clear HB)
        | (go_at_call 39; refine (HC.out _ (HT.out.alloc _)).mono ?_; rintro e w1 ⟨rfl, HB⟩; have HB1 : Hid (Below _ _ w1) := HB; obtain ⟨q0, q1, q2, q3, q4⟩ := (Cell4.new w (.int .i64 k) (.int .i64 n) (.string s) (.slice a l c) 31).below HB; have hl1 : w.heap.size < w1.heap.size := World.block_lt_of_cell? _ _ q0; clear HB))
      go_ret2
      exact ⟨rfl, HB2.out⟩
    | true =>
      cases htk : truthK t.kind with
      | false =>
        have hp : ((ctM 16 t : Nat) : Int) = 1 := by rw [hct, hty, htk]; rfl
        rw [hp] at HD
        simp only [if_true]
        go_enter Try.func103, Try.ntmps103
        go_wp2_with (first
          | (go_at_call 107; have := HB1; refine (HD.out _ ((HT.out.alloc _).below HB1.out)).mono ?_; rintro e w2 ⟨rfl, HB⟩; have HB2 : Hid (Below w.heap.size w w2) := (((Below.refl _ _).alloc (Nat.le_refl _) _).trans (HB1.out.mono (le_alloc _ _))).trans (HB.mono (Nat.le_trans (le_alloc _ _) HB1.out.size)); clear HB)
          | (go_at_call 39; refine (HC.out _ (HT.out.alloc _)).mono ?_; rintro e w1 ⟨rfl, HB⟩; have HB1 : Hid (Below _ _ w1) := HB; obtain ⟨q0, q1, q2, q3, q4⟩ := (Cell4.new w (.int .i64 k) (.int .i64 n) (.string s) (.slice a l c) 31).below HB; have hl1 : w.heap.size < w1.heap.size := World.block_lt_of_cell? _ _ q0; clear HB))
        go_ret2
        exact ⟨rfl, HB2.out⟩
      | true =>
        have hp : ((ctM 16 t : Nat) : Int) = 2 := by rw [hct, hty, htk]; rfl
        rw [hp] at HD
        simp only [if_true]
        go_enter Try.func103, Try.ntmps103
        go_wp2_with (first
          | (go_at_call 107; have := HB1; refine (HD.out _ ((HT.out.alloc _).below HB1.out)).mono ?_; rintro e w2 ⟨rfl, HB⟩; have HB2 : Hid (Below w.heap.size w w2) := (((Below.refl _ _).alloc (Nat.le_refl _) _).trans (HB1.out.mono (le_alloc _ _))).trans (HB.mono (Nat.le_trans (le_alloc _ _) HB1.out.size)); clear HB)
          | (go_at_call 39; refine (HC.out _ (HT.out.alloc _)).mono ?_; rintro e w1 ⟨rfl, HB⟩; have HB1 : Hid (Below _ _ w1) := HB; obtain ⟨q0, q1, q2, q3, q4⟩ := (Cell4.new w (.int .i64 k) (.int .i64 n) (.string s) (.slice a l c) 31).below HB; have hl1 : w.heap.size < w1.heap.size := World.block_lt_of_cell? _ _ q0; clear HB))
        go_ret2
        exact ⟨rfl, HB2.out⟩
  · have he : truthM t = (false, checkM 16 t) := by unfold truthM; rw [if_pos h0]
    rw [he]
    have h1 : ((checkM 16 t : Int) != 0) = true := by simp; omega
    generalize checkM 16 t = ck at *
    go_enter Try.func103, Try.ntmps103
    go_wp2_with (go_at_call 39; refine (HC.out _ (HT.out.alloc _)).mono ?_; rintro e w1 ⟨rfl, HB⟩)
    go_ret2
    exact ⟨rfl, ((Below.refl _ _).alloc (Nat.le_refl _) _).trans (HB.mono (by rw [size_alloc]; omega))⟩
end Go.Proofs.Ytjafjheffbbkmaa

/-
  What a tree comes to, with variables: plain mathematics.
-/
import Derived.Test.YtfjphlejhcdbaaaTruA
import Derived.Test.YtfjphlejhcdbaaaTwoX
import Derived.BigQuiet
import Derived.Test.YtfjphlejhcdbaaaVA
import Derived.Test.YtfjphlejhcdbaaaVB
namespace Go.Proofs.Ytfjphlejhcdbaaa
section
open Go.RowKit
set_option linter.unusedVariables false

/-- A value, and an error. -/
structure Va where
  b : Bool
  n : Int
  e : Nat
theorem Va.ext' {x y : Va} (h1 : x.b = y.b) (h2 : x.n = y.n) (h3 : x.e = y.e) : x = y := by
  cases x; cases y; simp_all
abbrev Env := Bs → Option Int
def truV (b : Bool) : Va := ⟨true, if b = true then 1 else 0, 0⟩
def errV (e : Nat) : Va := ⟨false, 0, e⟩
def numV (r : Int × Nat) : Va := ⟨false, r.1, r.2⟩
def varV (o : Option Int) : Va := match o with
  | none => errV 9
  | some n => ⟨false, n, 0⟩
def leafV (env : Env) (t : Tr) : Va := if t.kind = 1 then ⟨false, t.n, 0⟩ else if t.kind = 2 then varV (env t.name) else truV (decide (t.kind = 3))
def oneV (k : Int) (a : Va) : Va := if a.e ≠ 0 then errV a.e else if k = 6 then truV (decide (a.n = 0)) else numV (twoA 8 0 a.n)
def twoV (k : Int) (a b : Va) : Va :=
  if a.e ≠ 0 then errV a.e else if k = 13 ∧ a.n = 0 ∨ k = 14 ∧ a.n = 1 then a else if b.e ≠ 0 then errV b.e else
  if k = 13 ∨ k = 14 then b else if k = 11 then truV (decide (a.n = b.n)) else if k = 12 then truV (decide (a.n < b.n)) else numV (twoA k a.n b.n)
def evM (env : Env) : Nat → Tr → Va
  | 0, _ => errV 0
  | d + 1, t => match t.kids with
    | [] => leafV env t
    | [x] => oneV t.kind (evM env d x)
    | x :: y :: _ => twoV t.kind (evM env d x) (evM env d y)
/-- All numbers of a tree are numbers of 64 bits. -/
def NumsIn : Nat → Tr → Prop
  | 0, _ => True
  | d + 1, t => InR t.n ∧ ∀ x ∈ t.kids, NumsIn d x
def EnvIn (env : Env) : Prop := ∀ nm n, env nm = some n → InR n
theorem kid_mem {ks : List Tr} {x : Tr} (h : x ∈ ks) : ∃ i, i < ks.length ∧ ks.getD i zeroT = x := by
  obtain ⟨i, hi, e⟩ := List.getElem_of_mem h
  exact ⟨i, hi, by rw [List.getD_eq_getElem?_getD, List.getElem?_eq_getElem hi, Option.getD_some, e]⟩
theorem trv_nums {w : World} {P : Nat → Prop} : ∀ {d : Nat} {v : Value} {t : Tr}, TrV w P d v t → ∀ e, NumsIn e t
  | 0, _, _, h, _ => h.elim
  | d + 1, v, t, ⟨a, cap, h1, h2, h3, h4, h5, h6, h7⟩, e => by
    cases e with
    | zero => exact True.intro
    | succ e =>
      refine ⟨h4, fun x hx => ?_⟩
      obtain ⟨i, hi, he⟩ := kid_mem hx
      obtain ⟨b, o, u0, u1, u2, u3, k1, k2, k3, k4, k5, k6, k7⟩ := h7 i hi
      rw [he] at k7
      exact trv_nums k7 e
theorem tre_nums {w : World} {P : Nat → Prop} {v : Value} {t : Tr} (h : Tre w P v t) (e : Nat) : NumsIn e t := by
  obtain ⟨d, h⟩ := h
  exact trv_nums h e
theorem fitA_in (v : Int) : InR (fitA v).1 := by
  unfold fitA
  split
  · rename_i h
    unfold inB at h
    simpa [InR] using h
  · exact inR_zero
theorem twoA_in (k a b : Int) : InR (twoA k a b).1 := by
  unfold twoA
  repeat' split
  all_goals first | exact fitA_in _ | exact inR_zero
theorem fitA_err (v : Int) : ((fitA v).2 = 0) ∨ fitA v = (0, 13) := by
  unfold fitA
  split
  · exact .inl rfl
  · exact .inr rfl
theorem twoA_err (k a b : Int) : ((twoA k a b).2 = 0) ∨ twoA k a b = (0, 13) ∨ twoA k a b = (0, 12) := by
  unfold twoA
  repeat' split
  all_goals first
    | (rcases fitA_err (a + b) with h | h <;> simp [h]; done)
    | (rcases fitA_err (a - b) with h | h <;> simp [h]; done)
    | (rcases fitA_err (a * b) with h | h <;> simp [h]; done)
    | (rcases fitA_err (a.tdiv b) with h | h <;> simp [h]; done)
    | simp
/-- A value of a type, or one of three errors. -/
structure Fine (tk : Bool) (a : Va) : Prop where
  num : InR a.n
  bad : a.e ≠ 0 → a = errV a.e ∧ (a.e = 9 ∨ a.e = 12 ∨ a.e = 13)
  type : a.e = 0 → a.b = tk
  truth : a.e = 0 → tk = true → a.n = 0 ∨ a.n = 1
theorem fine_err {tk : Bool} {e : Nat} (h : e = 9 ∨ e = 12 ∨ e = 13) : Fine tk (errV e) :=
  ⟨inR_zero, fun _ => ⟨rfl, h⟩, fun h0 => by simp only [errV] at h0; omega, fun h0 => by simp only [errV] at h0; omega⟩
theorem fine_tru (b : Bool) : Fine true (truV b) := by
  refine ⟨?_, fun h => absurd rfl h, fun _ => rfl, fun _ _ => ?_⟩ <;> cases b <;> simp [truV, InR]
theorem fine_num (k a b : Int) : Fine false (numV (twoA k a b)) := by
  refine ⟨twoA_in _ _ _, fun h => ?_, fun _ => rfl, fun _ h => by cases h⟩
  rcases twoA_err k a b with h1 | h1 | h1
  · exact absurd h1 h
  · rw [h1]; exact ⟨rfl, .inr (.inr rfl)⟩
  · rw [h1]; exact ⟨rfl, .inr (.inl rfl)⟩
theorem fine_retype {tk tk' : Bool} {a : Va} (h : Fine tk a) (e : tk = tk') : Fine tk' a := e ▸ h
theorem fine_errof {tk tk' : Bool} {a : Va} (h : Fine tk a) (he : a.e ≠ 0) : Fine tk' (errV a.e) := fine_err (h.bad he).2
theorem ty_one {d : Nat} {k n : Int} {nm : Bs} {x : Tr} (h : tyM (d + 1) ⟨k, n, nm, [x]⟩ = true) (hk : k = 5 ∨ k = 6) : tyM d x = true ∧ truthK x.kind = decide (k = 6) := by
  unfold tyM at h
  simp only [List.all_cons, List.all_nil, Bool.and_true, Bool.and_eq_true] at h
  refine ⟨h.1, ?_⟩
  have h2 := h.2
  unfold fitK at h2
  simp only at h2
  rw [if_neg (by omega)] at h2
  rcases hk with rfl | rfl <;> simpa [wantT] using h2
theorem ty_two {d : Nat} {k n : Int} {nm : Bs} {x y : Tr} (h : tyM (d + 1) ⟨k, n, nm, [x, y]⟩ = true) (hk : 7 ≤ k) : tyM d x = true ∧ tyM d y = true ∧ (k = 11 ∧ truthK x.kind = truthK y.kind ∨ k ≠ 11 ∧ truthK x.kind = wantT k ∧ truthK y.kind = wantT k) := by
  unfold tyM at h
  simp only [List.all_cons, List.all_nil, Bool.and_true, Bool.and_eq_true] at h
  obtain ⟨⟨h1, h2⟩, h3, h4⟩ := h
  refine ⟨h1, h3, ?_⟩
  unfold fitK at h2 h4
  simp only [List.getD_cons_zero] at h2 h4
  by_cases h11 : k = 11
  · left
    rw [if_pos h11] at h4
    exact ⟨h11, by simpa using (beq_iff_eq.1 h4).symm⟩
  · right
    rw [if_neg h11] at h2 h4
    exact ⟨h11, by simpa using h2, by simpa using h4⟩
theorem ev_fine (env : Env) (hE : EnvIn env) : ∀ (d : Nat) (t : Tr), checkM d t = 0 → tyM d t = true → NumsIn d t → Fine (truthK t.kind) (evM env d t)
  | 0, t, h, _, _ => by cases h
  | d + 1, t, h, ht, hN => by
    have hs := shape h
    obtain ⟨k, n, nm, ks⟩ := t
    have h1 := hs.lo; have h2 := hs.hi
    obtain ⟨hN1, hN2⟩ := hN
    simp only at h1 h2 hN1 hN2 ⊢
    rcases hs.kids with ⟨h4, hk⟩ | ⟨h5, x, hk, hx⟩ | ⟨h7, x, y, hk, hx, hy⟩
    · simp only at hk h4
      subst hk
      unfold evM leafV
      simp only
      by_cases e1 : k = 1
      · rw [if_pos e1]
        subst e1
        exact ⟨hN1, fun h => absurd rfl h, fun _ => rfl, fun _ h => absurd h (by decide)⟩
      · rw [if_neg e1]
        by_cases e2 : k = 2
        · rw [if_pos e2]
          subst e2
          cases hv : env nm with
          | none => exact fine_err (.inl rfl)
          | some m => exact ⟨hE nm m hv, fun h => absurd rfl h, fun _ => rfl, fun _ h => absurd h (by decide)⟩
        · rw [if_neg e2]
          exact fine_retype (fine_tru _) (by unfold truthK; symm; rw [decide_eq_true_eq]; omega)
    · simp only at hk h5
      subst hk
      obtain ⟨hty, htk⟩ := ty_one ht h5
      have ih := ev_fine env hE d x hx hty (hN2 x (by simp))
      unfold evM oneV
      simp only
      by_cases he : (evM env d x).e = 0
      · rw [if_neg (by omega)]
        by_cases h6 : k = 6
        · rw [if_pos h6]; exact fine_retype (fine_tru _) (by subst h6; rfl)
        · rw [if_neg h6]; exact fine_retype (fine_num _ _ _) (by have : k = 5 := by omega
                                                                 subst this; rfl)
      · rw [if_pos he]; exact fine_errof ih he
    · simp only at hk h7
      subst hk
      obtain ⟨htx, hty, htk⟩ := ty_two ht h7
      have ihx := ev_fine env hE d x hx htx (hN2 x (by simp))
      have ihy := ev_fine env hE d y hy hty (hN2 y (by simp))
      unfold evM twoV
      simp only
      by_cases he : (evM env d x).e = 0
      · rw [if_neg (by omega)]
        by_cases hst : k = 13 ∧ (evM env d x).n = 0 ∨ k = 14 ∧ (evM env d x).n = 1
        · rw [if_pos hst]
          refine fine_retype ihx ?_
          rcases htk with ⟨h, _⟩ | ⟨_, h, _⟩
          · omega
          · rw [h]; rcases hst with ⟨rfl, _⟩ | ⟨rfl, _⟩ <;> rfl
        · rw [if_neg hst]
          by_cases he2 : (evM env d y).e = 0
          · rw [if_neg (by omega)]
            by_cases h13 : k = 13 ∨ k = 14
            · rw [if_pos h13]
              refine fine_retype ihy ?_
              rcases htk with ⟨h, _⟩ | ⟨_, _, h⟩
              · omega
              · rw [h]; rcases h13 with rfl | rfl <;> rfl
            · rw [if_neg h13]
              by_cases h11 : k = 11
              · rw [if_pos h11]; exact fine_retype (fine_tru _) (by subst h11; rfl)
              · rw [if_neg h11]
                by_cases h12 : k = 12
                · rw [if_pos h12]; exact fine_retype (fine_tru _) (by subst h12; rfl)
                · rw [if_neg h12]
                  exact fine_retype (fine_num _ _ _) (by unfold truthK; symm; rw [decide_eq_false_iff_not]; omega)
          · rw [if_pos he2]; exact fine_errof ihy he2
      · rw [if_pos he]; exact fine_errof ihx he
/-- What eval answers. -/
def ofM (env : Env) (ck : Nat) (t : Tr) : Va := if (truthM t).2 ≠ 0 then errV (truthM t).2 else if ck ≠ 0 then errV ck else evM env 16 t
theorem truth_typed {t : Tr} (h : (truthM t).2 = 0) : checkM 16 t = 0 ∧ tyM 16 t = true := by
  unfold truthM at h
  split at h
  · rename_i h1; exact absurd h h1
  · rename_i h1
    split at h
    · rename_i h2; exact ⟨by omega, h2⟩
    · cases h
theorem truth_is {t : Tr} (h : (truthM t).2 = 0) : (truthM t).1 = truthK t.kind := by
  obtain ⟨h1, h2⟩ := truth_typed h
  unfold truthM
  rw [if_neg (by omega), if_pos h2]
theorem truth_of {t : Tr} (h : checkM 16 t = 0) (h2 : tyM 16 t = true) : truthM t = (truthK t.kind, 0) := by
  unfold truthM
  rw [if_neg (by omega), if_pos h2]
end
section
open Go.RowKit
set_option linter.unusedVariables false

def vaV (r : Va) : Value := .agg #[.bool r.b, .int .i64 r.n]
/-- A value and an error are answered. -/
def EvP (r : Va) (w : World) (e : Ending) (w' : World) : Prop := e = .returned (.tuple #[.agg #[.bool r.b, .int .i64 r.n], .int .i64 (r.e : Nat)]) ∧ Below w.heap.size w w'
set_option maxRecDepth 100000 in
set_option maxHeartbeats 400000 in
theorem number_any (n : Int) (w : World) : Calls Try.prog 67 #[.int .i64 n] w fun e w' => e = .returned (.agg #[.bool false, .int .i64 n]) ∧ Below w.heap.size w w' := by
  go_enter Try.func67, Try.ntmps67
  go_wp2
  refine bodyPost_ret (v := .agg #[.bool false, .int .i64 n]) (by simp [results, Try.results67, go_sem]) rfl ⟨rfl, ?_⟩
  exact (Below.refl _ _).alloc (Nat.le_refl _) _
set_option maxRecDepth 100000 in
set_option maxHeartbeats 400000 in
theorem truth_any (b : Bool) (w : World) : Calls Try.prog 30 #[.bool b] w fun e w' => e = .returned (.agg #[.bool true, .int .i64 (if b = true then 1 else 0)]) ∧ Below w.heap.size w w' := by
  cases b
  all_goals (
    go_enter Try.func30, Try.ntmps30
    go_wp2
    refine bodyPost_ret (v := .agg #[.bool true, .int .i64 _]) (by simp [results, Try.results30, go_sem]) rfl ⟨rfl, ?_⟩
    exact (Below.refl _ _).alloc (Nat.le_refl _) _)
set_option maxRecDepth 100000 in
set_option maxHeartbeats 400000 in
theorem rtru_any (b : Bool) (w : World) : Calls Try.prog 51 #[.bool b] w fun e w' => e = .returned (.agg #[.bool true, .int .i64 (if b = true then 1 else 0)]) ∧ Below w.heap.size w w' := by
  cases b
  all_goals (
    go_enter Try.func51, Try.ntmps51
    go_wp2
    refine bodyPost_ret (v := .agg #[.bool true, .int .i64 _]) (by simp [results, Try.results51, go_sem]) rfl ⟨rfl, ?_⟩
    exact (Below.refl _ _).alloc (Nat.le_refl _) _)
/-- A number, and whether it is what is asked. -/
def FitP (v : Int) (w : World) (e : Ending) (w' : World) : Prop := ∃ n, e = .returned (.tuple #[.int .i64 n, .bool (inB v)]) ∧ (inB v = true → n = v) ∧ Below w.heap.size w w'
theorem inB_eq (v : Int) : inB v = decide (-9223372036854775808 ≤ v ∧ v ≤ 9223372036854775807) := rfl
theorem sum_math {a b n : Int} (ha : InR a) (hb : InR b) (hn : IntKind.i64.wrap (a + b) = n) : ((decide (a < n)) == (decide (0 < b))) = inB (a + b) ∧ (inB (a + b) = true → n = a + b) := by
  obtain ⟨a1, a2⟩ := ha
  obtain ⟨b1, b2⟩ := hb
  rw [IntKind.wrap_i64] at hn
  rw [inB_eq, Bool.eq_iff_iff]
  simp only [beq_iff_eq, decide_eq_decide, decide_eq_true_eq]
  omega
theorem dif_math {a b n : Int} (ha : InR a) (hb : InR b) (hn : IntKind.i64.wrap (a - b) = n) : ((decide (n < a)) == (decide (0 < b))) = inB (a - b) ∧ (inB (a - b) = true → n = a - b) := by
  obtain ⟨a1, a2⟩ := ha
  obtain ⟨b1, b2⟩ := hb
  rw [IntKind.wrap_i64] at hn
  rw [inB_eq, Bool.eq_iff_iff]
  simp only [beq_iff_eq, decide_eq_decide, decide_eq_true_eq]
  omega
theorem wrap_in (n : Int) : InR (IntKind.i64.wrap n) := by
  rw [IntKind.wrap_i64]; unfold InR; omega
theorem wrap_same {n : Int} (h : InR n) : IntKind.i64.wrap n = n := by
  obtain ⟨h1, h2⟩ := h
  rw [IntKind.wrap_i64]; omega
theorem inB_in {v : Int} : inB v = true ↔ InR v := by unfold inB InR; rw [decide_eq_true_eq]
theorem tdiv_in {n b : Int} (hn : InR n) (h : ¬ (n = -9223372036854775808 ∧ b = -1)) : InR (n.tdiv b) := by
  obtain ⟨h1, h2⟩ := hn
  have hab : (n.tdiv b).natAbs ≤ n.natAbs := by rw [Int.natAbs_tdiv]; exact Nat.div_le_self _ _
  by_cases e : n = -9223372036854775808
  · have hb : b ≠ -1 := fun hb => h ⟨e, hb⟩
    by_cases hbz : b = 0
    · subst hbz; rw [Int.tdiv_zero]; exact inR_zero
    · by_cases hb1 : b = 1
      · subst hb1; rw [Int.tdiv_one]; exact ⟨h1, h2⟩
      · have hab2 : (n.tdiv b).natAbs ≤ 4611686018427387904 := by
          rw [Int.natAbs_tdiv]
          have : n.natAbs = 9223372036854775808 := by omega
          rw [this]
          have hb2 : 2 ≤ b.natAbs := by omega
          exact Nat.le_trans (Nat.div_le_div_left hb2 (by decide)) (by decide)
        exact ⟨by omega, by omega⟩
  · exact ⟨by omega, by omega⟩
theorem pro_math {a b n : Int} (ha : InR a) (hb : InR b) (h0 : b ≠ 0) (hn : IntKind.i64.wrap (a * b) = n) (ha0 : a ≠ 0) :
    ((decide (n < 0) == (decide (a < 0) != decide (b < 0))) && (IntKind.i64.wrap (n.tdiv b) == a)) = inB (a * b) ∧ (inB (a * b) = true → n = a * b) := by
  have hnr : InR n := hn ▸ wrap_in _
  have h2 : inB (a * b) = true → n = a * b := fun h => by rw [← hn]; exact wrap_same (inB_in.1 h)
  refine ⟨?_, h2⟩
  rw [Bool.eq_iff_iff]
  constructor
  · intro h
    simp only [Bool.and_eq_true, beq_iff_eq] at h
    obtain ⟨hs, hq⟩ := h
    rw [inB_in]
    have hx : ¬ (n = -9223372036854775808 ∧ b = -1) := by
      rintro ⟨rfl, rfl⟩
      have : a = -9223372036854775808 := by rw [← hq]; decide
      subst this
      revert hs
      decide
    rw [wrap_same (tdiv_in hnr hx)] at hq
    have e1 : n = b * a + n.tmod b := by have := Int.mul_tdiv_add_tmod n b; rw [hq] at this; exact this.symm
    have e2 : (n.tmod b).natAbs < b.natAbs := by rw [Int.natAbs_tmod]; exact Nat.mod_lt _ (by omega)
    have e3 : n = (a * b + 9223372036854775808) % 18446744073709551616 - 9223372036854775808 := by rw [← hn, IntKind.wrap_i64]
    rw [Int.mul_comm b a] at e1
    generalize a * b = m at *
    generalize n.tmod b = r at *
    obtain ⟨q1, q2⟩ := hb
    obtain ⟨q3, q4⟩ := hnr
    have : r = 0 := by omega
    subst this
    exact ⟨by omega, by omega⟩
  · intro h
    have e := h2 h
    subst e
    simp only [Bool.and_eq_true, beq_iff_eq]
    refine ⟨?_, ?_⟩
    · by_cases p : a < 0 <;> by_cases q : b < 0
      · have := Int.mul_pos_of_neg_of_neg p q
        rw [decide_eq_true p, decide_eq_true q, decide_eq_false (by omega)]; rfl
      · have := Int.mul_neg_of_neg_of_pos p (show 0 < b by omega)
        rw [decide_eq_true p, decide_eq_false q, decide_eq_true this]; rfl
      · have := Int.mul_neg_of_pos_of_neg (show 0 < a by omega) q
        rw [decide_eq_false p, decide_eq_true q, decide_eq_true this]; rfl
      · have := Int.mul_pos (show 0 < a by omega) (show 0 < b by omega)
        rw [decide_eq_false p, decide_eq_false q, decide_eq_false (by omega)]; rfl
    · rw [Int.mul_tdiv_cancel a h0]; exact wrap_same ha
theorem quo_math {a b : Int} (ha : InR a) : (!decide (a = -9223372036854775808) || !decide (b = -1)) = inB (a.tdiv b) ∧ (inB (a.tdiv b) = true → IntKind.i64.wrap (a.tdiv b) = a.tdiv b) := by
  refine ⟨?_, fun h => wrap_same (inB_in.1 h)⟩
  rw [Bool.eq_iff_iff, inB_in]
  simp only [Bool.or_eq_true, Bool.not_eq_true', decide_eq_false_iff_not]
  constructor
  · intro h; exact tdiv_in ha (by omega)
  · intro h
    by_cases e : a = -9223372036854775808 ∧ b = -1
    · obtain ⟨rfl, rfl⟩ := e
      obtain ⟨_, h2⟩ := h
      exact absurd h2 (by decide)
    · omega
set_option maxRecDepth 100000 in
set_option maxHeartbeats 400000 in
theorem sum2_any (a b : Int) (ha : InR a) (hb : InR b) (w : World) : Calls Try.prog 91 #[.int .i64 a, .int .i64 b] w (FitP (a + b) w) := by
  obtain ⟨n, hn⟩ : ∃ n, IntKind.i64.wrap (a + b) = n := ⟨_, rfl⟩
  have HM : Hid (((decide (a < n)) == (decide (0 < b))) = inB (a + b) ∧ (inB (a + b) = true → n = a + b)) := sum_math ha hb hn
  clear ha hb
  go_enter Try.func91, Try.ntmps91
  go_wp2
  go_ret2
  exact ⟨n, by rw [← HM.out.1]; rfl, HM.out.2, Below.refl _ _⟩
set_option maxRecDepth 100000 in
set_option maxHeartbeats 400000 in
theorem dif2_any (a b : Int) (ha : InR a) (hb : InR b) (w : World) : Calls Try.prog 92 #[.int .i64 a, .int .i64 b] w (FitP (a - b) w) := by
  obtain ⟨n, hn⟩ : ∃ n, IntKind.i64.wrap (a - b) = n := ⟨_, rfl⟩
  have HM : Hid (((decide (n < a)) == (decide (0 < b))) = inB (a - b) ∧ (inB (a - b) = true → n = a - b)) := dif_math ha hb hn
  clear ha hb
  go_enter Try.func92, Try.ntmps92
  go_wp2
  go_ret2
  exact ⟨n, by rw [← HM.out.1]; rfl, HM.out.2, Below.refl _ _⟩
set_option maxRecDepth 100000 in
set_option maxHeartbeats 400000 in
theorem quo2_any (a b : Int) (ha : InR a) (hb : b ≠ 0) (w : World) : Calls Try.prog 94 #[.int .i64 a, .int .i64 b] w (FitP (a.tdiv b) w) := by
  have HM : Hid ((!decide (a = -9223372036854775808) || !decide (b = -1)) = inB (a.tdiv b) ∧ (inB (a.tdiv b) = true → wrap64 (a.tdiv b) = a.tdiv b)) := by
    have := quo_math (b := b) ha
    rw [IntWalk.i64_left] at this
    exact this
  clear ha
  obtain ⟨m, hm⟩ : ∃ m, m = a.tdiv b := ⟨_, rfl⟩
  have Hm : Hid (m = a.tdiv b) := hm
  rw [← hm] at HM ⊢
  clear hm
  by_cases h : a = -9223372036854775808
  · have HB : Hid (inB m = (b != -1)) := by
      show _ = _
      rw [← HM.out.1, h]
      by_cases e : b = -1
      · subst e; rfl
      · rw [decide_eq_false e]; symm; simpa using e
    subst h
    go_enter Try.func94, Try.ntmps94
    go_wp2
    go_ret2
    refine ⟨_, by rw [HB.out]; rfl, fun h => ?_, Below.refl _ _⟩
    have e : m = -Int.tdiv 9223372036854775808 b := by rw [Hm.out, Int.neg_tdiv]
    rw [← e]
    exact HM.out.2 h
  · have HB : Hid (inB m = true) := by
      show _ = _
      rw [← HM.out.1, decide_eq_false h]
      rfl
    go_enter Try.func94, Try.ntmps94
    go_wp2
    go_ret2
    refine ⟨_, by rw [HB.out]; rfl, fun h => ?_, Below.refl _ _⟩
    rw [← Hm.out]
    exact HM.out.2 h
set_option maxRecDepth 100000 in
set_option maxHeartbeats 400000 in
theorem pro2_any (a b : Int) (ha : InR a) (hb : InR b) (w : World) : Calls Try.prog 93 #[.int .i64 a, .int .i64 b] w (FitP (a * b) w) := by
  by_cases h0 : a = 0
  · subst h0
    have HM : Hid (inB (0 * b) = true ∧ (0 : Int) = 0 * b) := ⟨by rw [Int.zero_mul]; rfl, by rw [Int.zero_mul]⟩
    clear ha hb
    go_enter Try.func93, Try.ntmps93
    go_wp2
    go_ret2
    exact ⟨0, by rw [HM.out.1]; rfl, fun _ => HM.out.2, Below.refl _ _⟩
  by_cases h1 : b = 0
  · subst h1
    have HM : Hid (inB (a * 0) = true ∧ (0 : Int) = a * 0) := ⟨by rw [Int.mul_zero]; rfl, by rw [Int.mul_zero]⟩
    clear ha hb
    go_enter Try.func93, Try.ntmps93
    go_wp2
    go_ret2
    exact ⟨0, by rw [HM.out.1]; rfl, fun _ => HM.out.2, Below.refl _ _⟩
  obtain ⟨n, hn⟩ : ∃ n, IntKind.i64.wrap (a * b) = n := ⟨_, rfl⟩
  have HM : Hid (((decide (n < 0) == (decide (a < 0) != decide (b < 0))) && (IntKind.i64.wrap (n.tdiv b) == a)) = inB (a * b) ∧ (inB (a * b) = true → n = a * b)) := pro_math ha hb h1 hn h0
  clear ha hb
  have na : (a == 0) = false := by simpa using h0
  have nb : (b == 0) = false := by simpa using h1
  rw [IntWalk.i64_left] at hn
  obtain ⟨m, hm⟩ : ∃ m, m = a * b := ⟨_, rfl⟩
  rw [← hm] at HM ⊢
  clear hm
  obtain ⟨q, hq⟩ : ∃ q, IntKind.i64.wrap (n.tdiv b) = q := ⟨_, rfl⟩
  rw [hq] at HM
  rw [IntWalk.i64_left] at hq
  rcases Bool.eq_false_or_eq_true (decide (a < 0)) with dp | dp <;> rcases Bool.eq_false_or_eq_true (decide (b < 0)) with dr | dr <;> rcases Bool.eq_false_or_eq_true (decide (n < 0)) with dt | dt
  all_goals (
    rw [dp, dr, dt] at HM
    go_enter Try.func93, Try.ntmps93
    go_wp2
    go_quiet (fail)
    go_wp2
    go_ret2
    exact ⟨_, by rw [← HM.out.1]; rfl, fun h => hn.trans (HM.out.2 h), below_drewN (Below.refl _ _) _⟩)
end
section
open Go.RowKit
set_option linter.unusedVariables false

theorem fitA_yes {v : Int} (h : inB v = true) : fitA v = (v, 0) := by unfold fitA; rw [if_pos h]
theorem fitA_no {v : Int} (h : inB v = false) : fitA v = (0, 13) := by unfold fitA; rw [if_neg (by rw [h]; decide)]
theorem two_put {B p : Nat} {w w1 : World} (h : Below B w w1) (hB : B ≤ p) (x y : Value) : Below B w ((w1.setCell ⟨p, 0, none⟩ x).setCell ⟨p, 1, none⟩ y) := (h.setCell (p := ⟨p, 0, none⟩) hB x).setCell (p := ⟨p, 1, none⟩) hB y
theorem two_ahead {w w1 : World} {x y : Value} (HB : Below (w.alloc (.cells #[x, y] 32)).heap.size (w.alloc (.cells #[x, y] 32)) w1) : V.Two w1 w.heap.size x y ∧ Below w.heap.size w w1 :=
  ⟨(V.Two.new w x y 32).below HB, ((Below.refl _ _).alloc (Nat.le_refl _) _).trans (HB.mono (le_alloc _ _))⟩
set_option maxRecDepth 100000 in
set_option maxHeartbeats 400000 in
theorem reckon7 (a b : Int) (HC : Hid (∀ w, Calls Try.prog 91 #[.int .i64 a, .int .i64 b] w (FitP (a + b) w))) (w : World) : Calls Try.prog 70 #[.int .i64 7, .int .i64 a, .int .i64 b] w (EvP (numV (fitA (a + b))) w) := by
  have HN : Hid (∀ n w, Calls Try.prog 67 #[.int .i64 n] w fun e w' => e = .returned (.agg #[.bool false, .int .i64 n]) ∧ Below w.heap.size w w') := fun n w => number_any n w
  unfold FitP at HC
  generalize a + b = m at *
  cases hf : inB m with
  | true =>
    rw [hf] at HC
    rw [fitA_yes hf]
    go_enter Try.func70, Try.ntmps70
    go_wp2_with (first
      | (go_at_call 91; refine (HC.out _).mono ?_; rintro e w1 ⟨n, rfl, hn, HB1⟩; have hn := hn rfl; subst hn; have H1 : Hid (V.Two w1 w.heap.size _ _ ∧ Below w.heap.size w w1) := two_ahead HB1; clear HB1; obtain ⟨g1, c0, c1, f0, f1⟩ := H1.out.1)
      | (go_at_call 67; refine (HN.out _ _).mono ?_; rintro e w2 ⟨rfl, HB2⟩; have H2 : Hid (V.Two w2 w.heap.size _ _ ∧ Below w.heap.size w w2) := ⟨H1.out.1.below HB2, H1.out.2.trans (HB2.mono H1.out.2.size)⟩; clear HB2; obtain ⟨g1, c0, c1, f0, f1⟩ := H2.out.1))
    refine bodyPost_ret (v := .tuple #[.agg #[.bool false, .int .i64 n], .int .i64 0]) (by simp [results, Try.results70, go_sem, c0, c1]) rfl ⟨rfl, two_put H2.out.2 (Nat.le_refl _) _ _⟩
  | false =>
    rw [hf] at HC
    rw [fitA_no hf]
    go_enter Try.func70, Try.ntmps70
    go_wp2_with (first
      | (go_at_call 91; refine (HC.out _).mono ?_; rintro e w1 ⟨n, rfl, hn, HB1⟩; have H1 : Hid (V.Two w1 w.heap.size _ _ ∧ Below w.heap.size w w1) := two_ahead HB1; clear HB1; obtain ⟨g1, c0, c1, f0, f1⟩ := H1.out.1)
      | (go_at_call 67; refine (HN.out _ _).mono ?_; rintro e w2 ⟨rfl, HB2⟩; have H2 : Hid (V.Two w2 w.heap.size _ _ ∧ Below w.heap.size w w2) := ⟨H1.out.1.below HB2, H1.out.2.trans (HB2.mono H1.out.2.size)⟩; clear HB2; obtain ⟨g1, c0, c1, f0, f1⟩ := H2.out.1))
    refine bodyPost_ret (v := .tuple #[.agg #[.bool false, .int .i64 0], .int .i64 13]) (by simp [results, Try.results70, go_sem, c0, c1]) rfl ⟨rfl, two_put H1.out.2 (Nat.le_refl _) _ _⟩
set_option maxRecDepth 100000 in
set_option maxHeartbeats 400000 in
theorem reckon8 (a b : Int) (HC : Hid (∀ w, Calls Try.prog 92 #[.int .i64 a, .int .i64 b] w (FitP (a - b) w))) (w : World) : Calls Try.prog 70 #[.int .i64 8, .int .i64 a, .int .i64 b] w (EvP (numV (fitA (a - b))) w) := by
  have HN : Hid (∀ n w, Calls Try.prog 67 #[.int .i64 n] w fun e w' => e = .returned (.agg #[.bool false, .int .i64 n]) ∧ Below w.heap.size w w') := fun n w => number_any n w
  unfold FitP at HC
  generalize a - b = m at *
  cases hf : inB m with
  | true =>
    rw [hf] at HC
    rw [fitA_yes hf]
    go_enter Try.func70, Try.ntmps70
    go_wp2_with (first
      | (go_at_call 92; refine (HC.out _).mono ?_; rintro e w1 ⟨n, rfl, hn, HB1⟩; have hn := hn rfl; subst hn; have H1 : Hid (V.Two w1 w.heap.size _ _ ∧ Below w.heap.size w w1) := two_ahead HB1; clear HB1; obtain ⟨g1, c0, c1, f0, f1⟩ := H1.out.1)
      | (go_at_call 67; refine (HN.out _ _).mono ?_; rintro e w2 ⟨rfl, HB2⟩; have H2 : Hid (V.Two w2 w.heap.size _ _ ∧ Below w.heap.size w w2) := ⟨H1.out.1.below HB2, H1.out.2.trans (HB2.mono H1.out.2.size)⟩; clear HB2; obtain ⟨g1, c0, c1, f0, f1⟩ := H2.out.1))
    refine bodyPost_ret (v := .tuple #[.agg #[.bool false, .int .i64 n], .int .i64 0]) (by simp [results, Try.results70, go_sem, c0, c1]) rfl ⟨rfl, two_put H2.out.2 (Nat.le_refl _) _ _⟩
  | false =>
    rw [hf] at HC
    rw [fitA_no hf]
    go_enter Try.func70, Try.ntmps70
    go_wp2_with (first
      | (go_at_call 92; refine (HC.out _).mono ?_; rintro e w1 ⟨n, rfl, hn, HB1⟩; have H1 : Hid (V.Two w1 w.heap.size _ _ ∧ Below w.heap.size w w1) := two_ahead HB1; clear HB1; obtain ⟨g1, c0, c1, f0, f1⟩ := H1.out.1)
      | (go_at_call 67; refine (HN.out _ _).mono ?_; rintro e w2 ⟨rfl, HB2⟩; have H2 : Hid (V.Two w2 w.heap.size _ _ ∧ Below w.heap.size w w2) := ⟨H1.out.1.below HB2, H1.out.2.trans (HB2.mono H1.out.2.size)⟩; clear HB2; obtain ⟨g1, c0, c1, f0, f1⟩ := H2.out.1))
    refine bodyPost_ret (v := .tuple #[.agg #[.bool false, .int .i64 0], .int .i64 13]) (by simp [results, Try.results70, go_sem, c0, c1]) rfl ⟨rfl, two_put H1.out.2 (Nat.le_refl _) _ _⟩
set_option maxRecDepth 100000 in
set_option maxHeartbeats 400000 in
theorem reckon9 (a b : Int) (HC : Hid (∀ w, Calls Try.prog 93 #[.int .i64 a, .int .i64 b] w (FitP (a * b) w))) (w : World) : Calls Try.prog 70 #[.int .i64 9, .int .i64 a, .int .i64 b] w (EvP (numV (fitA (a * b))) w) := by
  have HN : Hid (∀ n w, Calls Try.prog 67 #[.int .i64 n] w fun e w' => e = .returned (.agg #[.bool false, .int .i64 n]) ∧ Below w.heap.size w w') := fun n w => number_any n w
  unfold FitP at HC
  generalize a * b = m at *
  cases hf : inB m with
  | true =>
    rw [hf] at HC
    rw [fitA_yes hf]
    go_enter Try.func70, Try.ntmps70
    go_wp2_with (first
      | (go_at_call 93; refine (HC.out _).mono ?_; rintro e w1 ⟨n, rfl, hn, HB1⟩; have hn := hn rfl; subst hn; have H1 : Hid (V.Two w1 w.heap.size _ _ ∧ Below w.heap.size w w1) := two_ahead HB1; clear HB1; obtain ⟨g1, c0, c1, f0, f1⟩ := H1.out.1)
      | (go_at_call 67; refine (HN.out _ _).mono ?_; rintro e w2 ⟨rfl, HB2⟩; have H2 : Hid (V.Two w2 w.heap.size _ _ ∧ Below w.heap.size w w2) := ⟨H1.out.1.below HB2, H1.out.2.trans (HB2.mono H1.out.2.size)⟩; clear HB2; obtain ⟨g1, c0, c1, f0, f1⟩ := H2.out.1))
    refine bodyPost_ret (v := .tuple #[.agg #[.bool false, .int .i64 n], .int .i64 0]) (by simp [results, Try.results70, go_sem, c0, c1]) rfl ⟨rfl, two_put H2.out.2 (Nat.le_refl _) _ _⟩
  | false =>
    rw [hf] at HC
    rw [fitA_no hf]
    go_enter Try.func70, Try.ntmps70
    go_wp2_with (first
      | (go_at_call 93; refine (HC.out _).mono ?_; rintro e w1 ⟨n, rfl, hn, HB1⟩; have H1 : Hid (V.Two w1 w.heap.size _ _ ∧ Below w.heap.size w w1) := two_ahead HB1; clear HB1; obtain ⟨g1, c0, c1, f0, f1⟩ := H1.out.1)
      | (go_at_call 67; refine (HN.out _ _).mono ?_; rintro e w2 ⟨rfl, HB2⟩; have H2 : Hid (V.Two w2 w.heap.size _ _ ∧ Below w.heap.size w w2) := ⟨H1.out.1.below HB2, H1.out.2.trans (HB2.mono H1.out.2.size)⟩; clear HB2; obtain ⟨g1, c0, c1, f0, f1⟩ := H2.out.1))
    refine bodyPost_ret (v := .tuple #[.agg #[.bool false, .int .i64 0], .int .i64 13]) (by simp [results, Try.results70, go_sem, c0, c1]) rfl ⟨rfl, two_put H1.out.2 (Nat.le_refl _) _ _⟩
set_option maxRecDepth 100000 in
set_option maxHeartbeats 400000 in
theorem reckon10 (a b : Int) (hb : b ≠ 0) (HC : Hid (∀ w, Calls Try.prog 94 #[.int .i64 a, .int .i64 b] w (FitP (a.tdiv b) w))) (w : World) : Calls Try.prog 70 #[.int .i64 10, .int .i64 a, .int .i64 b] w (EvP (numV (fitA (a.tdiv b))) w) := by
  have HN : Hid (∀ n w, Calls Try.prog 67 #[.int .i64 n] w fun e w' => e = .returned (.agg #[.bool false, .int .i64 n]) ∧ Below w.heap.size w w') := fun n w => number_any n w
  unfold FitP at HC
  generalize a.tdiv b = m at *
  cases hf : inB m with
  | true =>
    rw [hf] at HC
    rw [fitA_yes hf]
    go_enter Try.func70, Try.ntmps70
    go_wp2_with (first
      | (go_at_call 94; refine (HC.out _).mono ?_; rintro e w1 ⟨n, rfl, hn, HB1⟩; have hn := hn rfl; subst hn; have H1 : Hid (V.Two w1 w.heap.size _ _ ∧ Below w.heap.size w w1) := two_ahead HB1; clear HB1; obtain ⟨g1, c0, c1, f0, f1⟩ := H1.out.1)
      | (go_at_call 67; refine (HN.out _ _).mono ?_; rintro e w2 ⟨rfl, HB2⟩; have H2 : Hid (V.Two w2 w.heap.size _ _ ∧ Below w.heap.size w w2) := ⟨H1.out.1.below HB2, H1.out.2.trans (HB2.mono H1.out.2.size)⟩; clear HB2; obtain ⟨g1, c0, c1, f0, f1⟩ := H2.out.1))
    refine bodyPost_ret (v := .tuple #[.agg #[.bool false, .int .i64 n], .int .i64 0]) (by simp [results, Try.results70, go_sem, c0, c1]) rfl ⟨rfl, two_put H2.out.2 (Nat.le_refl _) _ _⟩
  | false =>
    rw [hf] at HC
    rw [fitA_no hf]
    go_enter Try.func70, Try.ntmps70
    go_wp2_with (first
      | (go_at_call 94; refine (HC.out _).mono ?_; rintro e w1 ⟨n, rfl, hn, HB1⟩; have H1 : Hid (V.Two w1 w.heap.size _ _ ∧ Below w.heap.size w w1) := two_ahead HB1; clear HB1; obtain ⟨g1, c0, c1, f0, f1⟩ := H1.out.1)
      | (go_at_call 67; refine (HN.out _ _).mono ?_; rintro e w2 ⟨rfl, HB2⟩; have H2 : Hid (V.Two w2 w.heap.size _ _ ∧ Below w.heap.size w w2) := ⟨H1.out.1.below HB2, H1.out.2.trans (HB2.mono H1.out.2.size)⟩; clear HB2; obtain ⟨g1, c0, c1, f0, f1⟩ := H2.out.1))
    refine bodyPost_ret (v := .tuple #[.agg #[.bool false, .int .i64 0], .int .i64 13]) (by simp [results, Try.results70, go_sem, c0, c1]) rfl ⟨rfl, two_put H1.out.2 (Nat.le_refl _) _ _⟩
set_option maxRecDepth 100000 in
set_option maxHeartbeats 400000 in
theorem reckon0 (a : Int) (w : World) : Calls Try.prog 70 #[.int .i64 10, .int .i64 a, .int .i64 0] w (EvP (numV (0, 12)) w) := by
  go_enter Try.func70, Try.ntmps70
  go_wp2
  refine bodyPost_ret (v := .tuple #[.agg #[.bool false, .int .i64 0], .int .i64 12]) (by simp [results, Try.results70, go_sem]) rfl ⟨rfl, (Below.refl _ _).alloc (Nat.le_refl _) _⟩
theorem reckon_any (k a b : Int) (h7 : 7 ≤ k) (h10 : k ≤ 10) (ha : InR a) (hb : InR b) (w : World) : Calls Try.prog 70 #[.int .i64 k, .int .i64 a, .int .i64 b] w (EvP (numV (twoA k a b)) w) := by
  have hk : k = 7 ∨ k = 8 ∨ k = 9 ∨ k = 10 := by omega
  unfold twoA
  rcases hk with rfl | rfl | rfl | rfl
  · rw [if_pos rfl]; exact reckon7 a b (fun w => sum2_any a b ha hb w) w
  · rw [if_neg (by decide), if_pos rfl]; exact reckon8 a b (fun w => dif2_any a b ha hb w) w
  · rw [if_neg (by decide), if_neg (by decide), if_pos rfl]; exact reckon9 a b (fun w => pro2_any a b ha hb w) w
  · rw [if_neg (by decide), if_neg (by decide), if_neg (by decide)]
    by_cases h0 : b = 0
    · rw [if_pos h0]; subst h0; exact reckon0 a w
    · rw [if_neg h0]; exact reckon10 a b h0 (fun w => quo2_any a b ha h0 w) w
end
section
open Go.RowKit
set_option linter.unusedVariables false

/-- What variables say of a name. -/
def envL (l : V.VL) : Env := fun nm => V.look l (ba nm)
/-- Variables that may be, as a value. -/
structure Vok (l : V.VL) (v : Value) (w : World) : Prop where
  rd : V.RdV w v (V.nmsOf l) (V.valsOf l)
  srt : V.Srt (V.nmsOf l)
  len : l.length ≤ 64
theorem Vok.below {l : V.VL} {v : Value} {w w' : World} (h : Vok l v w) (hb : Below w.heap.size w w') : Vok l v w' := ⟨h.rd.below hb, h.srt, h.len⟩
theorem Vok.form {l : V.VL} {v : Value} {w : World} (h : Vok l v w) : ∃ a1 n1 c1 a2 n2 c2, v = .agg #[.slice a1 n1 c1, .slice a2 n2 c2] := by
  obtain ⟨sn, sv, rfl, h1, h2⟩ := h.rd
  obtain ⟨a1, c1, rfl⟩ := h1.form
  obtain ⟨a2, c2, rfl⟩ := h2.form
  exact ⟨_, _, _, _, _, _, rfl⟩
/-- A function value that tells r of the variables. -/
def PartV (l : V.VL) (v : Value) (w : World) (f : Value) (r : Va) : Prop := ∃ n cap, f = .func (.func n) #[] cap ∧ (∀ args w, (callFunc n args).run Try.prog w = .ok (.enter n args) w) ∧ ∀ w', Below w.heap.size w w' → Vok l v w' → Calls Try.prog n (#[v] ++ cap) w' (EvP r w')
theorem PartV.below {l : V.VL} {v : Value} {w w' : World} {f : Value} {r : Va} (h : PartV l v w f r) (hb : Below w.heap.size w w') : PartV l v w' f r := by
  obtain ⟨n, cap, h1, he, h2⟩ := h
  exact ⟨n, cap, h1, he, fun w2 hb2 hv => h2 w2 (hb.trans (hb2.mono hb.size)) hv⟩
theorem get_look {l : V.VL} (hs : V.Srt (V.nmsOf l)) (nm : Bs) : (V.fnd (V.nmsOf l) (ba nm) = true ∧ envL l nm = some (V.getV l (ba nm))) ∨ (V.fnd (V.nmsOf l) (ba nm) = false ∧ envL l nm = none) := by
  have h := V.look_srt (ba nm) hs
  unfold envL
  cases hf : V.fnd (V.nmsOf l) (ba nm) with
  | true => rw [hf] at h; exact .inl ⟨rfl, h⟩
  | false => rw [hf] at h; exact .inr ⟨rfl, h⟩
/-- What a part has laid: its variables, and the room of its answer. -/
structure Fra (w w1 : World) (x y : Value) : Prop where
  vars : V.Two w1 w.heap.size x y
  room : V.Two w1 (w.heap.size + 1) (.bool false) (.int .i64 0)
  low : Below w.heap.size w w1
theorem Fra.new (w : World) (x y : Value) : Fra w ((w.alloc (.cells #[x, y] 28)).alloc (.cells #[.bool false, .int .i64 0] 32)) x y := by
  refine ⟨(V.Two.new w x y 28).alloc _, ?_, ((Below.refl _ _).alloc (Nat.le_refl _) _).alloc (le_alloc _ _) _⟩
  have h := V.Two.new (w.alloc (.cells #[x, y] 28)) (.bool false) (.int .i64 0) 32
  rwa [size_alloc] at h
theorem Fra.below {w w1 w2 : World} {x y : Value} (h : Fra w w1 x y) (hb : Below w1.heap.size w1 w2) : Fra w w2 x y := ⟨h.vars.below hb, h.room.below hb, h.low.trans (hb.mono h.low.size)⟩
theorem Fra.put {w w1 : World} {x y : Value} (h : Fra w w1 x y) (u v : Value) : Below w.heap.size w ((w1.setCell ⟨w.heap.size + 1, 0, none⟩ u).setCell ⟨w.heap.size + 1, 1, none⟩ v) := two_put h.low (Nat.le_succ _) u v
set_option maxRecDepth 100000 in
set_option maxHeartbeats 400000 in
theorem leaf2_any (l : V.VL) (v : Value) (g : Nat) (b : Bool) (n : Int) (w : World) (hv : Vok l v w) (hc : V.Two w g (.bool b) (.int .i64 n)) : Calls Try.prog 68 #[v, .pointer (some ⟨g, 0, none⟩)] w (EvP ⟨b, n, 0⟩ w) := by
  obtain ⟨a1, n1, k1, a2, n2, k2, rfl⟩ := hv.form
  obtain ⟨g1, c0, c1, f0, f1⟩ := hc
  clear hv
  go_enter Try.func68, Try.ntmps68
  go_wp2
  refine bodyPost_ret (v := .tuple #[.agg #[.bool b, .int .i64 n], .int .i64 0]) (by simp [results, Try.results68, go_sem]) rfl ⟨rfl, ((Below.refl _ _).alloc (Nat.le_refl _) _).alloc (le_alloc _ _) _⟩
set_option maxRecDepth 100000 in
set_option maxHeartbeats 400000 in
theorem leaf1_any (l : V.VL) (v : Value) (g : Nat) (nm : Bs) (w : World) (hv : Vok l v w) (hc : w.cell? ⟨g, 2, none⟩ = some (.string (ba nm))) : Calls Try.prog 65 #[v, .pointer (some ⟨g, 0, none⟩)] w (EvP (varV (envL l nm)) w) := by
  have HG : Hid (∀ w, Vok l v w → Calls Try.prog 66 #[v, .string (ba nm)] w fun e w' => e = .returned (.tuple #[.int .i64 (V.getV l (ba nm)), .bool (V.fnd (V.nmsOf l) (ba nm))]) ∧ Below w.heap.size w w') := fun w h => V.Get_any l (ba nm) v w h.rd h.srt (Nat.le_trans h.len (by decide))
  have HV : Hid (Vok l v w) := hv
  have HN : Hid (∀ n w, Calls Try.prog 67 #[.int .i64 n] w fun e w' => e = .returned (.agg #[.bool false, .int .i64 n]) ∧ Below w.heap.size w w') := fun n w => number_any n w
  have hlk := get_look hv.srt nm
  have hg : g < w.heap.size := World.block_lt_of_cell? w _ hc
  obtain ⟨a1, n1, k1, a2, n2, k2, rfl⟩ := hv.form
  clear hv
  generalize ba nm = s at *
  have HF : Hid (Fra w _ (.slice a1 n1 k1) (.slice a2 n2 k2)) := Fra.new w (.slice a1 n1 k1) (.slice a2 n2 k2)
  rcases hlk with ⟨h1, h2⟩ | ⟨h1, h2⟩
  · rw [h1] at HG
    rw [h2]
    clear h1 h2
    generalize V.getV l s = x at *
    unfold varV
    simp only
    go_enter Try.func65, Try.ntmps65
    go_wp2_with (first
      | (go_at_call 66; refine (HG.out _ (HV.out.below HF.out.low)).mono ?_; rintro e w1 ⟨rfl, HB1⟩; have H1 : Hid (Fra w w1 (.slice a1 n1 k1) (.slice a2 n2 k2)) := HF.out.below HB1; clear HB1)
      | (go_at_call 67; refine (HN.out _ _).mono ?_; rintro e w2 ⟨rfl, HB2⟩; have H2 : Hid (Fra w w2 (.slice a1 n1 k1) (.slice a2 n2 k2)) := H1.out.below HB2; clear HB2; obtain ⟨g1, c0, c1, f0, f1⟩ := H2.out.room))
    refine bodyPost_ret (v := .tuple #[.agg #[.bool false, .int .i64 x], .int .i64 0]) (by simp [results, Try.results65, go_sem, c0, c1]) rfl ⟨rfl, H2.out.put _ _⟩
  · rw [h1] at HG
    rw [h2]
    clear h1 h2
    generalize V.getV l s = x at *
    unfold varV
    simp only
    go_enter Try.func65, Try.ntmps65
    go_wp2_with (first
      | (go_at_call 66; refine (HG.out _ (HV.out.below HF.out.low)).mono ?_; rintro e w1 ⟨rfl, HB1⟩; have H1 : Hid (Fra w w1 (.slice a1 n1 k1) (.slice a2 n2 k2)) := HF.out.below HB1; clear HB1; obtain ⟨g1, c0, c1, f0, f1⟩ := H1.out.room))
    refine bodyPost_ret (v := .tuple #[.agg #[.bool false, .int .i64 0], .int .i64 9]) (by simp [results, Try.results65, go_sem, c0, c1]) rfl ⟨rfl, H1.out.put _ _⟩
end
end Go.Proofs.Ytfjphlejhcdbaaa

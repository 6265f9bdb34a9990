/-
  With all that is known reckoned a tree comes to the same, if it came to a value: plain mathematics.
-/
import Derived.Test.YtfjphlejhcdbaaaEv7A
import Derived.Test.YtfjphlejhcdbaaaRfA
namespace Go.Proofs.Ytfjphlejhcdbaaa
open Go.RowKit
set_option linter.unusedVariables false

theorem firstBad_all {f : Tr → Nat} : ∀ {l : List Tr}, (∀ x ∈ l, f x = 0) → firstBad f l = 0
  | [], _ => rfl
  | k :: r, h => by
    unfold firstBad
    rw [if_neg (by have := h k (by simp); omega)]
    exact firstBad_all fun x hx => h x (by simp [hx])
theorem check_of {d : Nat} {t : Tr} (h : fitsM t = true) (h2 : ∀ x ∈ t.kids, checkM d x = 0) : checkM (d + 1) t = 0 := by
  unfold checkM
  rw [if_neg (by rw [h]; decide)]
  exact firstBad_all h2
theorem check_up : ∀ (d : Nat) (t : Tr), checkM d t = 0 → checkM (d + 1) t = 0
  | 0, t, h => by cases h
  | d + 1, t, h => check_of (check_fits h).1 fun x hx => check_up d x ((check_fits h).2 x hx)
theorem ty_up : ∀ (d : Nat) (t : Tr), checkM d t = 0 → tyM d t = true → tyM (d + 1) t = true
  | 0, t, h, _ => by cases h
  | d + 1, t, h, ht => by
    unfold tyM at ht ⊢
    rw [List.all_eq_true] at ht ⊢
    intro x hx
    have := ht x hx
    simp only [Bool.and_eq_true] at this ⊢
    exact ⟨ty_up d x ((check_fits h).2 x hx) this.1, this.2⟩
theorem nums_up : ∀ (d : Nat) (t : Tr), checkM d t = 0 → NumsIn d t → NumsIn (d + 1) t
  | 0, t, h, _ => by cases h
  | d + 1, t, h, hn => ⟨hn.1, fun x hx => nums_up d x ((check_fits h).2 x hx) (hn.2 x hx)⟩
theorem ev_up (env : Env) : ∀ (d : Nat) (t : Tr), checkM d t = 0 → evM env (d + 1) t = evM env d t
  | 0, t, h => by cases h
  | d + 1, t, h => by
    have hs := shape h
    rcases hs.kids with ⟨h4, hk⟩ | ⟨h5, x, hk, hx⟩ | ⟨h7, x, y, hk, hx, hy⟩
    · rw [ev_leaf hk, ev_leaf hk]
    · rw [ev_one hk, ev_one hk, ev_up env d x hx]
    · rw [ev_two hk, ev_two hk, ev_up env d x hx, ev_up env d y hy]
theorem oneV_same {k : Int} {X A : Va} (h : (oneV k X).e = 0) (hx : X.e = 0 → A = X) : oneV k A = oneV k X := by
  by_cases h0 : X.e = 0
  · rw [hx h0]
  · exfalso
    unfold oneV at h
    rw [if_pos h0] at h
    exact h0 h
theorem oneV_left {k : Int} {X : Va} (h : (oneV k X).e = 0) : X.e = 0 := by
  by_cases h0 : X.e = 0
  · exact h0
  · exfalso
    unfold oneV at h
    rw [if_pos h0] at h
    exact h0 h
theorem twoV_left {k : Int} {X Y : Va} (h : (twoV k X Y).e = 0) : X.e = 0 := by
  by_cases h0 : X.e = 0
  · exact h0
  · exfalso
    unfold twoV at h
    rw [if_pos h0] at h
    exact h0 h
theorem twoV_right {k : Int} {X Y : Va} (h : (twoV k X Y).e = 0) (hs : ¬ (k = 13 ∧ X.n = 0 ∨ k = 14 ∧ X.n = 1)) : Y.e = 0 := by
  have h1 := twoV_left h
  by_cases h0 : Y.e = 0
  · exact h0
  · exfalso
    unfold twoV at h
    rw [if_neg (by omega), if_neg hs, if_pos h0] at h
    exact h0 h
theorem twoV_same {k : Int} {X Y A B : Va} (h : (twoV k X Y).e = 0) (hx : X.e = 0 → A = X) (hy : Y.e = 0 → B = Y) : twoV k A B = twoV k X Y := by
  have h1 := twoV_left h
  rw [hx h1]
  by_cases hs : k = 13 ∧ X.n = 0 ∨ k = 14 ∧ X.n = 1
  · have e1 : ∀ Z, twoV k X Z = X := fun Z => by unfold twoV; rw [if_neg (by omega), if_pos hs]
    rw [e1, e1]
  · rw [hy (twoV_right h hs)]
theorem twoV_eq {X Y : Va} (h1 : X.e = 0) (h2 : Y.e = 0) : twoV 11 X Y = truV (decide (X.n = Y.n)) := by
  unfold twoV
  rw [if_neg (by omega), if_neg (by omega), if_neg (by omega), if_neg (by decide), if_pos rfl]
theorem twoV_lt {X Y : Va} (h1 : X.e = 0) (h2 : Y.e = 0) : twoV 12 X Y = truV (decide (X.n < Y.n)) := by
  unfold twoV
  rw [if_neg (by omega), if_neg (by omega), if_neg (by omega), if_neg (by decide), if_neg (by decide), if_pos rfl]
theorem twoV_num {k : Int} {X Y : Va} (hk : 7 ≤ k ∧ k ≤ 10) (h1 : X.e = 0) (h2 : Y.e = 0) : twoV k X Y = numV (twoA k X.n Y.n) := by
  unfold twoV
  rw [if_neg (by omega), if_neg (by omega), if_neg (by omega), if_neg (by omega), if_neg (by omega), if_neg (by omega)]
theorem check_pos {d : Nat} {t : Tr} (h : checkM d t = 0) : ∃ e, d = e + 1 := by
  cases d with
  | zero => cases h
  | succ e => exact ⟨e, rfl⟩
theorem plain_leaf {d : Nat} {t : Tr} (h : checkM d t = 0) (hk : t.kind ≤ 4) : t.kids = [] := by
  obtain ⟨e, rfl⟩ := check_pos h
  have hs := shape h
  rcases hs.kids with ⟨_, hq⟩ | ⟨h5, _⟩ | ⟨h7, _⟩
  · exact hq
  · omega
  · omega
theorem ev_plain1 {env : Env} {d : Nat} {t : Tr} (h : checkM d t = 0) (hk : t.kind = 1) : evM env d t = ⟨false, t.n, 0⟩ := by
  have hq := plain_leaf h (by omega)
  obtain ⟨e, rfl⟩ := check_pos h
  rw [ev_leaf hq]
  unfold leafV
  rw [if_pos hk]
theorem ev_plain3 {env : Env} {d : Nat} {t : Tr} (h : checkM d t = 0) (hk : t.kind = 3 ∨ t.kind = 4) : evM env d t = truV (decide (t.kind = 3)) ∧ t.n = 0 := by
  have hq := plain_leaf h (by omega)
  obtain ⟨e, rfl⟩ := check_pos h
  refine ⟨?_, (shape h).num0 (by omega)⟩
  rw [ev_leaf hq]
  unfold leafV
  rw [if_neg (by omega), if_neg (by omega)]
theorem ans_kids (b : Bool) : (ansT b).kids = [] := by cases b <;> rfl
theorem ev_ans {env : Env} {d : Nat} (b : Bool) : evM env (d + 1) (ansT b) = truV b := by
  rw [ev_leaf (ans_kids b)]
  unfold leafV
  cases b <;> rfl
theorem check_ans (d : Nat) (b : Bool) : checkM (d + 1) (ansT b) = 0 := by
  refine check_of (by cases b <;> decide) fun x hx => ?_
  rw [ans_kids] at hx
  cases hx
theorem ty_ans (d : Nat) (b : Bool) : tyM (d + 1) (ansT b) = true := by unfold tyM; rw [ans_kids]; rfl
theorem nums_ans (d : Nat) (b : Bool) : NumsIn (d + 1) (ansT b) := by
  refine ⟨by cases b <;> exact inR_zero, fun x hx => ?_⟩
  rw [ans_kids] at hx
  cases hx
theorem fits_one {k : Int} {s : Tr} (hk : k = 5 ∨ k = 6) : fitsM ⟨k, 0, [], [s]⟩ = true := by
  unfold fitsM
  simp only [List.length_cons, List.length_nil]
  rw [kidsK_one hk, if_neg (by omega), if_neg (by omega), if_neg (by omega)]
  rfl
theorem fits_two {k : Int} {s t : Tr} (h7 : 7 ≤ k) (h14 : k ≤ 14) : fitsM ⟨k, 0, [], [s, t]⟩ = true := by
  unfold fitsM
  simp only [List.length_cons, List.length_nil]
  rw [kidsK_two h7, if_neg (by omega), if_neg (by omega), if_neg (by omega)]
  rfl
/-- What a folded tree is, beside the tree. -/
structure Fold (env : Env) (d : Nat) (t f : Tr) : Prop where
  check : checkM d f = 0
  ty : tyM d f = true
  nums : NumsIn d f
  kind : truthK f.kind = truthK t.kind
  same : (evM env d t).e = 0 → evM env d f = evM env d t
theorem Fold.up {env : Env} {d : Nat} {f : Tr} (h1 : checkM d f = 0) (h2 : tyM d f = true) (h3 : NumsIn d f) : checkM (d + 1) f = 0 ∧ tyM (d + 1) f = true ∧ NumsIn (d + 1) f ∧ evM env (d + 1) f = evM env d f := ⟨check_up d f h1, ty_up d f h1 h2, nums_up d f h1 h3, ev_up env d f h1⟩
theorem rec_two {k a b r : Int} (ha : 0 ≤ a) (ha2 : a ≤ 9223372036854775807) (hb : 0 ≤ b) (h : recM k a b = some r) : twoA k a b = (r, 0) := by
  have hr := recM_in ha ha2 hb h
  have hfit : ∀ v, v = r → fitA v = (r, 0) := fun v e => by rw [e]; exact fitA_yes (inB_in.2 hr)
  unfold recM at h
  unfold twoA
  by_cases h7 : k = 7
  · rw [if_pos h7] at h ⊢
    split at h
    · exact hfit _ (by injection h)
    · cases h
  · rw [if_neg h7] at h ⊢
    by_cases h8 : k = 8
    · rw [if_pos h8] at h ⊢
      split at h
      · exact hfit _ (by injection h)
      · cases h
    · rw [if_neg h8] at h ⊢
      by_cases h9 : k = 9
      · rw [if_pos h9] at h ⊢
        split at h
        · exact hfit _ (by injection h)
        · cases h
      · rw [if_neg h9] at h ⊢
        split at h
        · split at h
          · rename_i hb0
            rw [if_neg hb0]
            refine hfit _ ?_
            rw [Int.tdiv_eq_ediv_of_nonneg ha]
            injection h
          · cases h
        · cases h
theorem fold_one' {env : Env} {d : Nat} {k n : Int} {nm : Bs} {x s : Tr} (hk : k = 5 ∨ k = 6) (htk : truthK x.kind = decide (k = 6)) (hx : checkM d x = 0) (F : Fold env d x s) : Fold env (d + 1) ⟨k, n, nm, [x]⟩ (oneM k s) := by
  have htr : truthK (oneM k s).kind = truthK k := by
    unfold oneM
    split
    · rename_i hc; rw [ans_truth, hc.1]; rfl
    · split
      · rename_i hc; rw [hc.2.1, hc.1]; rfl
      · rfl
  by_cases c1 : k = 6 ∧ (s.kind = 3 ∨ s.kind = 4)
  · have e1 : oneM k s = ansT (decide (s.kind = 4)) := by unfold oneM; rw [if_pos c1]
    rw [e1] at htr ⊢
    refine ⟨check_ans _ _, ty_ans _ _, nums_ans _ _, htr, fun h => ?_⟩
    rw [ev_one (t := ⟨k, n, nm, [x]⟩) (x := x) rfl] at h ⊢
    rw [ev_ans, ← F.same (oneV_left h), (ev_plain3 F.check c1.2).1, c1.1]
    rcases c1.2 with h3 | h4
    · rw [h3]; rfl
    · rw [h4]; rfl
  · by_cases c2 : k = 5 ∧ s.kind = 1 ∧ s.n = 0
    · have e1 : oneM k s = s := by unfold oneM; rw [if_neg c1, if_pos c2]
      rw [e1] at htr ⊢
      obtain ⟨u1, u2, u3, u4⟩ := Fold.up (env := env) F.check F.ty F.nums
      refine ⟨u1, u2, u3, htr, fun h => ?_⟩
      rw [ev_one (t := ⟨k, n, nm, [x]⟩) (x := x) rfl] at h ⊢
      rw [u4, ← F.same (oneV_left h), ev_plain1 F.check c2.2.1, c2.1, c2.2.2]
      rfl
    · have e1 : oneM k s = ⟨k, 0, [], [s]⟩ := by unfold oneM; rw [if_neg c1, if_neg c2]
      rw [e1]
      refine ⟨check_of (fits_one hk) fun y hy => ?_, ?_, ⟨inR_zero, fun y hy => ?_⟩, rfl, fun h => ?_⟩
      · simp only [List.mem_singleton] at hy; rw [hy]; exact F.check
      · unfold tyM
        simp only [List.all_cons, List.all_nil, Bool.and_true, Bool.and_eq_true]
        refine ⟨F.ty, ?_⟩
        unfold fitK
        simp only
        rw [if_neg (by omega), F.kind, htk]
        rcases hk with rfl | rfl <;> rfl
      · simp only [List.mem_singleton] at hy; rw [hy]; exact F.nums
      · rw [ev_one (t := ⟨k, n, nm, [x]⟩) (x := x) rfl] at h ⊢
        rw [ev_one (t := ⟨k, 0, [], [s]⟩) (x := s) rfl]
        exact oneV_same h F.same
theorem fold_node {env : Env} {d : Nat} {k n : Int} {nm : Bs} {x y a b : Tr} (h7 : 7 ≤ k) (h14 : k ≤ 14) (htk : k = 11 ∧ truthK x.kind = truthK y.kind ∨ k ≠ 11 ∧ truthK x.kind = wantT k ∧ truthK y.kind = wantT k) (F : Fold env d x a) (G : Fold env d y b) : Fold env (d + 1) ⟨k, n, nm, [x, y]⟩ ⟨k, 0, [], [a, b]⟩ := by
  refine ⟨check_of (fits_two h7 h14) fun z hz => ?_, ?_, ⟨inR_zero, fun z hz => ?_⟩, rfl, fun h => ?_⟩
  · simp only [List.mem_cons, List.not_mem_nil, or_false] at hz
    rcases hz with rfl | rfl
    · exact F.check
    · exact G.check
  · unfold tyM
    simp only [List.all_cons, List.all_nil, Bool.and_true, Bool.and_eq_true]
    unfold fitK
    simp only [List.getD_cons_zero]
    refine ⟨⟨F.ty, ?_⟩, G.ty, ?_⟩
    · by_cases h11 : k = 11
      · rw [if_pos h11]; simp
      · rw [if_neg h11, F.kind]
        rcases htk with ⟨h, _⟩ | ⟨_, h1, _⟩
        · exact absurd h h11
        · rw [h1]; simp
    · by_cases h11 : k = 11
      · rw [if_pos h11, F.kind, G.kind]
        rcases htk with ⟨_, h⟩ | ⟨h, _⟩
        · rw [h]; simp
        · exact absurd h11 h
      · rw [if_neg h11, G.kind]
        rcases htk with ⟨h, _⟩ | ⟨_, _, h1⟩
        · exact absurd h h11
        · rw [h1]; simp
  · simp only [List.mem_cons, List.not_mem_nil, or_false] at hz
    rcases hz with rfl | rfl
    · exact F.nums
    · exact G.nums
  · rw [ev_two (t := ⟨k, n, nm, [x, y]⟩) (x := x) (y := y) rfl] at h ⊢
    rw [ev_two (t := ⟨k, 0, [], [a, b]⟩) (x := a) (y := b) rfl]
    exact twoV_same h F.same G.same
theorem nums_n {d : Nat} {t : Tr} (h : checkM d t = 0) (hn : NumsIn d t) : 0 ≤ t.n ∧ t.n ≤ 9223372036854775807 := by
  obtain ⟨e, rfl⟩ := check_pos h
  exact ⟨(shape h).num, hn.1.2⟩
theorem twoV_and {k : Int} {X Y : Va} (hk : k = 13 ∨ k = 14) (h : (twoV k X Y).e = 0) (hs : ¬ (k = 13 ∧ X.n = 0 ∨ k = 14 ∧ X.n = 1)) : twoV k X Y = Y := by
  have h1 := twoV_left h
  have h2 := twoV_right h hs
  unfold twoV
  rw [if_neg (by omega), if_neg hs, if_neg (by omega), if_pos hk]
theorem twoV_stop {k : Int} {X Y : Va} (h : (twoV k X Y).e = 0) (hs : k = 13 ∧ X.n = 0 ∨ k = 14 ∧ X.n = 1) : twoV k X Y = X := by
  have h1 := twoV_left h
  unfold twoV
  rw [if_neg (by omega), if_pos hs]
theorem fold_two' {env : Env} {d : Nat} {k n : Int} {nm : Bs} {x y a b : Tr} (h7 : 7 ≤ k) (h14 : k ≤ 14) (htk : k = 11 ∧ truthK x.kind = truthK y.kind ∨ k ≠ 11 ∧ truthK x.kind = wantT k ∧ truthK y.kind = wantT k) (F : Fold env d x a) (G : Fold env d y b) (hkind : truthK (twoM k a b).kind = truthK k) : Fold env (d + 1) ⟨k, n, nm, [x, y]⟩ (twoM k a b) := by
  have N := fold_node (n := n) (nm := nm) h7 h14 htk F G
  by_cases c1 : k = 13 ∨ k = 14
  · by_cases c2 : a.kind = 3 ∨ a.kind = 4
    · by_cases c3 : a.kind = (if k = 14 then 3 else 4)
      · have e1 : twoM k a b = a := by unfold twoM; rw [if_pos c1, if_pos c2, if_pos c3]
        rw [e1] at hkind ⊢
        obtain ⟨u1, u2, u3, u4⟩ := Fold.up (env := env) F.check F.ty F.nums
        refine ⟨u1, u2, u3, hkind, fun h => ?_⟩
        rw [ev_two (t := ⟨k, n, nm, [x, y]⟩) (x := x) (y := y) rfl] at h ⊢
        have hX := F.same (twoV_left h)
        rw [u4, hX]
        refine (twoV_stop h ?_).symm
        rw [← hX, (ev_plain3 F.check c2).1]
        unfold truV
        rcases c1 with rfl | rfl
        · left; rw [if_neg (by decide)] at c3; rw [c3]; exact ⟨rfl, rfl⟩
        · right; rw [if_pos rfl] at c3; rw [c3]; exact ⟨rfl, rfl⟩
      · have e1 : twoM k a b = b := by unfold twoM; rw [if_pos c1, if_pos c2, if_neg c3]
        rw [e1] at hkind ⊢
        obtain ⟨u1, u2, u3, u4⟩ := Fold.up (env := env) G.check G.ty G.nums
        refine ⟨u1, u2, u3, hkind, fun h => ?_⟩
        rw [ev_two (t := ⟨k, n, nm, [x, y]⟩) (x := x) (y := y) rfl] at h ⊢
        have hX := F.same (twoV_left h)
        have hs : ¬ (k = 13 ∧ (evM env d x).n = 0 ∨ k = 14 ∧ (evM env d x).n = 1) := by
          rw [← hX, (ev_plain3 F.check c2).1]
          unfold truV
          rcases c1 with rfl | rfl
          · rw [if_neg (by decide)] at c3
            have : a.kind = 3 := by omega
            rw [this]; decide
          · rw [if_pos rfl] at c3
            have : a.kind = 4 := by omega
            rw [this]; decide
        rw [u4, G.same (twoV_right h hs), twoV_and c1 h hs]
    · have e1 : twoM k a b = ⟨k, 0, [], [a, b]⟩ := by unfold twoM; rw [if_pos c1, if_neg c2]
      rw [e1]; exact N
  · by_cases c2 : k = 11 ∨ k = 12
    · by_cases c3 : plainK a.kind = true ∧ plainK b.kind = true
      · have e1 : twoM k a b = ansT (if k = 11 then decide (a.kind = b.kind ∧ a.n = b.n) else decide (a.n < b.n)) := by unfold twoM; rw [if_neg c1, if_pos c2, if_pos c3]
        rw [e1] at hkind ⊢
        refine ⟨check_ans _ _, ty_ans _ _, nums_ans _ _, hkind, fun h => ?_⟩
        rw [ev_two (t := ⟨k, n, nm, [x, y]⟩) (x := x) (y := y) rfl] at h ⊢
        have hX := F.same (twoV_left h)
        have hs : ¬ (k = 13 ∧ (evM env d x).n = 0 ∨ k = 14 ∧ (evM env d x).n = 1) := by omega
        have hY := G.same (twoV_right h hs)
        rw [ev_ans]
        have hxe := twoV_left h
        have hye := twoV_right h hs
        rcases c2 with rfl | rfl
        · show _ = twoV 11 _ _
          rw [twoV_eq hxe hye, if_pos rfl]
          congr 1
          rw [← hX, ← hY]
          have htt : truthK a.kind = truthK b.kind := by
            rw [F.kind, G.kind]
            rcases htk with ⟨_, h⟩ | ⟨h, _⟩
            · exact h
            · exact absurd rfl h
          rcases plain_ne c3.1 with ha | ha
          · have hb : b.kind = 1 := by
              rcases plain_ne c3.2 with hb | hb | hb
              · exact hb
              · rw [ha, hb] at htt; exact absurd htt (by decide)
              · rw [ha, hb] at htt; exact absurd htt (by decide)
            rw [ev_plain1 F.check ha, ev_plain1 G.check hb, ha, hb]
            simp
          · have hb : b.kind = 3 ∨ b.kind = 4 := by
              rcases plain_ne c3.2 with hb | hb
              · rcases ha with ha | ha <;> (rw [ha, hb] at htt; exact absurd htt (by decide))
              · exact hb
            rw [(ev_plain3 F.check ha).1, (ev_plain3 G.check hb).1, (ev_plain3 (env := env) F.check ha).2, (ev_plain3 (env := env) G.check hb).2]
            rcases ha with ha | ha <;> rcases hb with hb | hb <;> (rw [ha, hb]; decide)
        · show _ = twoV 12 _ _
          rw [twoV_lt hxe hye, if_neg (by decide)]
          congr 1
          rw [← hX, ← hY]
          rcases htk with ⟨h, _⟩ | ⟨_, hq1, hq2⟩
          · exact absurd h (by decide)
          · have ha : a.kind = 1 := plain_num c3.1 (by rw [F.kind, hq1]; rfl)
            have hb : b.kind = 1 := plain_num c3.2 (by rw [G.kind, hq2]; rfl)
            rw [ev_plain1 F.check ha, ev_plain1 G.check hb]
      · have e1 : twoM k a b = ⟨k, 0, [], [a, b]⟩ := by unfold twoM; rw [if_neg c1, if_pos c2, if_neg c3]
        rw [e1]; exact N
    · by_cases c3 : a.kind = 1 ∧ b.kind = 1
      · cases hr : recM k a.n b.n with
        | none =>
          have e1 : twoM k a b = ⟨k, 0, [], [a, b]⟩ := by unfold twoM; rw [if_neg c1, if_neg c2, if_pos c3, hr]
          rw [e1]; exact N
        | some r =>
          have e1 : twoM k a b = ⟨1, r, [], []⟩ := by unfold twoM; rw [if_neg c1, if_neg c2, if_pos c3, hr]
          rw [e1] at hkind ⊢
          obtain ⟨na1, na2⟩ := nums_n F.check F.nums
          obtain ⟨nb1, nb2⟩ := nums_n G.check G.nums
          have hrp := recM_pos na1 nb1 hr
          refine ⟨check_of ?_ (fun z hz => by cases hz), rfl, ⟨recM_in na1 na2 nb1 hr, fun z hz => by cases hz⟩, hkind, fun h => ?_⟩
          · unfold fitsM
            simp only [List.length_nil]
            rw [if_neg (by decide), if_neg (by omega), if_neg (by decide)]
            rfl
          · rw [ev_two (t := ⟨k, n, nm, [x, y]⟩) (x := x) (y := y) rfl] at h ⊢
            have hX := F.same (twoV_left h)
            have hs : ¬ (k = 13 ∧ (evM env d x).n = 0 ∨ k = 14 ∧ (evM env d x).n = 1) := by omega
            have hY := G.same (twoV_right h hs)
            have hxe := twoV_left h
            have hye := twoV_right h hs
            show _ = twoV k _ _
            rw [twoV_num ⟨h7, by omega⟩ hxe hye, ← hX, ← hY, ev_plain1 F.check c3.1, ev_plain1 G.check c3.2, rec_two na1 na2 nb1 hr, ev_leaf (t := ⟨1, r, [], []⟩) rfl]
            rfl
      · have e1 : twoM k a b = ⟨k, 0, [], [a, b]⟩ := by unfold twoM; rw [if_neg c1, if_neg c2, if_neg c3]
        rw [e1]; exact N
theorem fold_is (env : Env) : ∀ (d : Nat) (t : Tr), checkM d t = 0 → tyM d t = true → NumsIn d t → Fold env d t (foM d t)
  | 0, t, h, _, _ => by cases h
  | d + 1, t, h, ht, hN => by
    have hs := shape h
    have hft := fo_type (d + 1) t h ht
    obtain ⟨k, n, nm, ks⟩ := t
    have h1 := hs.lo; have h2 := hs.hi
    obtain ⟨hN1, hN2⟩ := hN
    simp only at h1 h2 hN1 hN2 hft
    rcases hs.kids with ⟨h4, hk⟩ | ⟨h5, x, hk, hx⟩ | ⟨h7, x, y, hk, hx, hy⟩
    · simp only at hk h4
      subst hk
      have e : foM (d + 1) ⟨k, n, nm, []⟩ = ⟨k, n, nm, []⟩ := by unfold foM; rfl
      rw [e]
      exact ⟨h, ht, ⟨hN1, fun x hx => by cases hx⟩, rfl, fun _ => rfl⟩
    · simp only at hk h5
      subst hk
      obtain ⟨hty, htk⟩ := ty_one ht h5
      have he : foM (d + 1) ⟨k, n, nm, [x]⟩ = oneM k (foM d x) := by conv => lhs; unfold foM
      rw [he]
      exact fold_one' h5 htk hx (fold_is env d x hx hty (hN2 x (by simp)))
    · simp only at hk h7
      subst hk
      obtain ⟨htx, hty, htk⟩ := ty_two ht h7
      have he : foM (d + 1) ⟨k, n, nm, [x, y]⟩ = twoM k (foM d x) (foM d y) := by conv => lhs; unfold foM
      rw [he] at hft ⊢
      exact fold_two' h7 h2 htk (fold_is env d x hx htx (hN2 x (by simp))) (fold_is env d y hy hty (hN2 y (by simp))) hft
/-- Folded, a condition that came to a value comes to it. -/
theorem fold_of {env : Env} {ck : Nat} {t : Tr} (hN : NumsIn 16 t) (h0 : (foldM t).2 = 0) (he : (ofM env ck t).e = 0) : ofM env ck (foldM t).1 = ofM env ck t := by
  unfold foldM at h0 ⊢
  by_cases h1 : (truthM t).2 = 0
  · rw [if_neg (by omega)]
    obtain ⟨c1, c2⟩ := truth_typed h1
    have F := fold_is env 16 t c1 c2 hN
    have h2 : (truthM (foM 16 t)).2 = 0 := by rw [truth_of F.check F.ty]
    have e1 : ofM env ck (foM 16 t) = if ck ≠ 0 then errV ck else evM env 16 (foM 16 t) := by unfold ofM; rw [if_neg (by omega)]
    have e2 : ofM env ck t = if ck ≠ 0 then errV ck else evM env 16 t := by unfold ofM; rw [if_neg (by omega)]
    rw [e2] at he
    show ofM env ck (foM 16 t) = _
    rw [e1, e2]
    by_cases hc : ck = 0
    · rw [if_neg (by omega)] at he
      rw [if_neg (by omega), if_neg (by omega)]
      exact F.same he
    · rw [if_pos hc] at he
      exact absurd he hc
  · rw [if_pos h1] at h0
    exact absurd h0 h1
end Go.Proofs.Ytfjphlejhcdbaaa

/-
  ModelTrees' walk.
-/
import Derived.Test.YtjafjheffbbkmaaXbA
import Derived.Test.YtjafjheffbbkmaaRtZ
import Derived.Test.YtjafjheffbbkmaaPuB
import Derived.Test.YtjafjheffbbkmaaPuD
import Derived.Test.YtjafjheffbbkmaaRSame
import Derived.Test.YtjafjheffbbkmaaRWt
import Derived.Test.YtjafjheffbbkmaaTkD
import Derived.Test.YtjafjheffbbkmaaWrZ
import Derived.Deep.RegionHeld3
namespace Go.Proofs.Ytjafjheffbbkmaa
open Go.RowKit
set_option linter.unusedVariables false

structure Mt (w w1 : World) (t : Tr) (a : Option Addr) (c : Nat) (vb : Value) (l : BB) : Prop where
  bel : Below w.heap.size w w1
  tr : Tre w1 (fun _ => True) (.agg #[.int .i64 t.kind, .int .i64 t.n, .string (ba t.name), .slice a t.kids.length c]) t
  rd : V.ReadsV w1 vb l
  cx : Cell4 w1 w.heap.size (.int .i64 t.kind) (.int .i64 t.n) (.string (ba t.name)) (.slice a t.kids.length c)
theorem Mt.below {w w1 w2 : World} {t : Tr} {a : Option Addr} {c : Nat} {vb : Value} {l : BB} (h : Mt w w1 t a c vb l) (hb : Below w1.heap.size w1 w2) : Mt w w2 t a c vb l :=
  ⟨h.bel.trans (hb.mono h.bel.size), h.tr.below hb, h.rd.below hb, h.cx.below hb⟩
/-- What reading a tree comes to: the error, the tree, what is left. -/
structure Rdx (l : BB) (er : Nat) (T : Tr) (R : BB) : Prop where
  ok : ∀ t r, exprE l = .ok (t, r) → er = 0 ∧ T = t ∧ R = r
  bad : ∀ e, exprE l = .error e → er = e ∧ T = ⟨0, 0, [], []⟩ ∧ R = []
theorem rdx_any (l : BB) : ∃ er T R, Rdx l er T R := by
  rcases h : exprE l with e | ⟨t, r⟩
  · exact ⟨e, ⟨0, 0, [], []⟩, [], ⟨fun t r q => (by rw [h] at q; cases q), fun e' q => (by rw [h] at q; cases q; exact ⟨rfl, rfl, rfl⟩)⟩⟩
  · exact ⟨0, t, r, ⟨fun t' r' q => (by rw [h] at q; cases q; exact ⟨rfl, rfl, rfl⟩), fun e' q => (by rw [h] at q; cases q)⟩⟩
theorem zero_tre (w : World) (P : Nat → Prop) : Tre w P (.agg #[.int .i64 0, .int .i64 0, .string ⟨#[]⟩, .slice none 0 0]) ⟨0, 0, [], []⟩ := Tre.leaf w P inR_zero inR_zero [] (by decide)
theorem trees_14 (v : Value) (l : BB) (er : Nat) (T : Tr) (R : BB) (hx : Rdx l er T R) (hl : l.length ≤ 2000) (w : World) (h : V.ReadsV w v l) : Calls Try.prog 14 #[v] w fun e w' => ∃ k n s a ln c v', e = .returned (.tuple #[.agg #[.int .i64 k, .int .i64 n, .string s, .slice a ln c], v', .int .i64 er]) ∧ Tre w' (fun _ => True) (.agg #[.int .i64 k, .int .i64 n, .string s, .slice a ln c]) T ∧ V.ReadsV w' v' R ∧ Below w.heap.size w w' := by
  rcases hq : exprE l with e | ⟨t, r⟩
  · obtain ⟨rfl, rfl, rfl⟩ := hx.bad _ hq
    refine (ReadExpr_err v l w h _ hq).mono ?_
    rintro e w' ⟨rfl, q⟩
    exact ⟨_, _, _, _, _, _, _, rfl, zero_tre _ _, V.ReadsV.nil _, q⟩
  · obtain ⟨rfl, rfl, rfl⟩ := hx.ok _ _ hq
    refine (ReadExpr_ok v l _ _ w h hq (by omega)).mono ?_
    rintro e w' ⟨k, n, s, a, ln, c, v', rfl, q1, q2, q3⟩
    exact ⟨_, _, _, _, _, _, _, rfl, q1.sub fun _ _ => True.intro, q2, q3⟩
theorem trees_15 (v : Value) (l : BB) (er : Nat) (T : Tr) (R : BB) (hx : Rdx l er T R) (hl : l.length ≤ 2000) (w : World) (h : V.ReadsV w v l) : Calls Try.prog 15 #[v] w fun e w' => ∃ k n s a ln c kk, e = .returned (.tuple #[.agg #[.int .i64 k, .int .i64 n, .string s, .slice a ln c], .int .i64 (kk : Nat), .int .i64 er]) ∧ Tre w' (fun _ => True) (.agg #[.int .i64 k, .int .i64 n, .string s, .slice a ln c]) T ∧ kk ≤ l.length ∧ (er = 0 → R = l.drop kk) ∧ Below w.heap.size w w' := by
  refine (RReadExpr_any v l w h (by omega)).mono ?_
  rintro e w' ⟨k, n, s, a, ln, c, kk, e', rfl, q1, q2, ⟨t, q3, rfl, q4⟩ | ⟨q3, q4, rfl, rfl, rfl, rfl, rfl, rfl, rfl⟩⟩
  · obtain ⟨rfl, rfl, rfl⟩ := hx.ok _ _ q3
    exact ⟨_, _, _, _, _, _, kk, rfl, q4.sub fun _ _ => True.intro, q2, fun _ => rfl, q1⟩
  · obtain ⟨rfl, rfl, rfl⟩ := hx.bad _ q3
    exact ⟨_, _, _, _, _, _, 0, rfl, zero_tre _ _, Nat.zero_le _, fun h => absurd h q4, q1⟩
theorem same_self {t : Tr} (P Q : Nat → Prop) (v1 v2 : Value) (w : World) (h1 : Tre w P v1 t) (h2 : Tre w Q v2 t) : Calls Try.prog 16 #[v1, v2] w fun e w' => e = .returned (.bool true) ∧ Below w.heap.size w w' := by
  refine (rsame_any t P Q t v1 v2 w h1 h2).mono ?_
  rintro e w' ⟨⟨b, rfl, hb⟩, q⟩
  rw [hb.mpr rfl]
  exact ⟨rfl, q⟩
set_option maxRecDepth 100000 in
set_option maxHeartbeats 600000 in
theorem trees_long (t : Tr) (a : Option Addr) (c : Nat) (vb : Value) (l : BB) (w : World) (hT : Tre w (fun _ => True) (.agg #[.int .i64 t.kind, .int .i64 t.n, .string (ba t.name), .slice a t.kids.length c]) t) (hb : V.ReadsV w vb l) (hl : ¬ l.length ≤ 2000) :
    Calls Try.prog 4 #[.agg #[.int .i64 t.kind, .int .i64 t.n, .string (ba t.name), .slice a t.kids.length c], vb] w fun e w' => e = .returned (.bool true) ∧ Below w.heap.size w w' := by
  have hb' := hb
  obtain ⟨ab, cb, rfl, _⟩ := hb'
  have hcb := V.ReadsV.cap hb
  have hcm : cb ≤ 9223372036854775807 := by obtain ⟨_, _, e, _, _, q, _⟩ := hb; simp only [Value.slice.injEq] at e; rw [e.2.2]; exact q
  obtain ⟨nl, hNL⟩ : ∃ nl, nl = l.length := ⟨_, rfl⟩
  rw [← hNL] at hb hcb hl ⊢
  have H0 : Hid (Mt w (w.alloc (.cells #[.int .i64 t.kind, .int .i64 t.n, .string (ba t.name), .slice a t.kids.length c] 31)) t a c (.slice ab nl cb) l) := ⟨(Below.refl _ _).alloc (Nat.le_refl _) _, hT.alloc _, hb.below ((Below.refl _ _).alloc (Nat.le_refl _) _), Cell4.new w _ _ _ _ 31⟩
  have H13 : Hid (Calls Try.prog 13 #[.agg #[.int .i64 t.kind, .int .i64 t.n, .string (ba t.name), .slice a t.kids.length c], .int .i64 300] (w.alloc (.cells #[.int .i64 t.kind, .int .i64 t.n, .string (ba t.name), .slice a t.kids.length c] 31)) fun e w' => ∃ z : Int, e = .returned (.int .i64 z) ∧ Mt w w' t a c (.slice ab nl cb) l) := by
    refine (weightT_any (fun _ => True) t _ _ _ _ _ _ 300 _ ⟨by decide, by decide⟩ H0.out.tr).mono ?_
    rintro e w' ⟨z, rfl, _, q⟩
    exact ⟨z, rfl, H0.out.below q⟩
  have H10 : Hid (∀ w1, Mt w w1 t a c (.slice ab nl cb) l → Calls Try.prog 10 #[] w1 fun e w' => e = .returned (.bool true) ∧ Mt w w' t a c (.slice ab nl cb) l) := fun w1 q => (works_any w1).mono fun e w' q1 => ⟨q1.1, q.below q1.2⟩
  have HC : Hid (∀ w1, Mt w w1 t a c (.slice ab nl cb) l → w1.cell? ⟨w.heap.size, 0, none⟩ = some (.int .i64 t.kind) ∧ w1.cell? ⟨w.heap.size, 1, none⟩ = some (.int .i64 t.n) ∧ w1.cell? ⟨w.heap.size, 2, none⟩ = some (.string (ba t.name)) ∧ w1.cell? ⟨w.heap.size, 3, none⟩ = some (.slice a t.kids.length c)) := fun _ q => ⟨q.cx.c0, q.cx.c1, q.cx.c2, q.cx.c3⟩
  clear hT hb H0 hNL
  generalize t.kind = xk at *
  generalize t.n = xn at *
  generalize ba t.name = xs at *
  generalize t.kids.length = xl at *
  go_enter Try.func4, Try.ntmps4
  go_wp2_with (first
    | (go_at_call 10; have := T1; refine (H10.out _ T1.out).mono ?_; rintro e wz ⟨rfl, qz⟩; have TZ : Hid (Mt w wz t a c (.slice ab nl cb) l) := qz; clear qz)
    | (go_at_call 13; refine H13.out.mono ?_; rintro e w1 ⟨z, rfl, q1⟩; have T1 : Hid (Mt w w1 t a c (.slice ab nl cb) l) := q1; obtain ⟨x0, x1, x2, x3⟩ := HC.out _ q1; clear q1; rcases Int.lt_or_le 300 z with hz3 | hz3))
  all_goals (go_ret; exact ⟨rfl, TZ.out.bel⟩)
set_option maxRecDepth 100000 in
set_option maxHeartbeats 600000 in
theorem trees_bad (t : Tr) (a : Option Addr) (c : Nat) (vb : Value) (l : BB) (w : World) (hT : Tre w (fun _ => True) (.agg #[.int .i64 t.kind, .int .i64 t.n, .string (ba t.name), .slice a t.kids.length c]) t) (hb : V.ReadsV w vb l) (hl : l.length ≤ 2000) (er : Nat) (T : Tr) (R : BB) (hx : Rdx l er T R) (her : er ≠ 0) :
    Calls Try.prog 4 #[.agg #[.int .i64 t.kind, .int .i64 t.n, .string (ba t.name), .slice a t.kids.length c], vb] w fun e w' => e = .returned (.bool true) ∧ Below w.heap.size w w' := by
  have hb' := hb
  obtain ⟨ab, cb, rfl, _⟩ := hb'
  have hcb := V.ReadsV.cap hb
  have hcm : cb ≤ 9223372036854775807 := by obtain ⟨_, _, e, _, _, q, _⟩ := hb; simp only [Value.slice.injEq] at e; rw [e.2.2]; exact q
  obtain ⟨nl, hNL⟩ : ∃ nl, nl = l.length := ⟨_, rfl⟩
  rw [← hNL] at hb hcb hl ⊢
  have H0 : Hid (Mt w (w.alloc (.cells #[.int .i64 t.kind, .int .i64 t.n, .string (ba t.name), .slice a t.kids.length c] 31)) t a c (.slice ab nl cb) l) := ⟨(Below.refl _ _).alloc (Nat.le_refl _) _, hT.alloc _, hb.below ((Below.refl _ _).alloc (Nat.le_refl _) _), Cell4.new w _ _ _ _ 31⟩
  have H13 : Hid (Calls Try.prog 13 #[.agg #[.int .i64 t.kind, .int .i64 t.n, .string (ba t.name), .slice a t.kids.length c], .int .i64 300] (w.alloc (.cells #[.int .i64 t.kind, .int .i64 t.n, .string (ba t.name), .slice a t.kids.length c] 31)) fun e w' => ∃ z : Int, e = .returned (.int .i64 z) ∧ Mt w w' t a c (.slice ab nl cb) l) := by
    refine (weightT_any (fun _ => True) t _ _ _ _ _ _ 300 _ ⟨by decide, by decide⟩ H0.out.tr).mono ?_
    rintro e w' ⟨z, rfl, _, q⟩
    exact ⟨z, rfl, H0.out.below q⟩
  have H10 : Hid (∀ w1, Mt w w1 t a c (.slice ab nl cb) l → Calls Try.prog 10 #[] w1 fun e w' => e = .returned (.bool true) ∧ Mt w w' t a c (.slice ab nl cb) l) := fun w1 q => (works_any w1).mono fun e w' q1 => ⟨q1.1, q.below q1.2⟩
  have HC : Hid (∀ w1, Mt w w1 t a c (.slice ab nl cb) l → w1.cell? ⟨w.heap.size, 0, none⟩ = some (.int .i64 t.kind) ∧ w1.cell? ⟨w.heap.size, 1, none⟩ = some (.int .i64 t.n) ∧ w1.cell? ⟨w.heap.size, 2, none⟩ = some (.string (ba t.name)) ∧ w1.cell? ⟨w.heap.size, 3, none⟩ = some (.slice a t.kids.length c)) := fun _ q => ⟨q.cx.c0, q.cx.c1, q.cx.c2, q.cx.c3⟩
  have H14 : Hid (∀ w1, Mt w w1 t a c (.slice ab nl cb) l → Calls Try.prog 14 #[.slice ab nl cb] w1 fun e w' => ∃ k n s a' ln c' v', e = .returned (.tuple #[.agg #[.int .i64 k, .int .i64 n, .string s, .slice a' ln c'], v', .int .i64 er]) ∧ Tre w' (fun _ => True) (.agg #[.int .i64 k, .int .i64 n, .string s, .slice a' ln c']) T ∧ V.ReadsV w' v' R ∧ Mt w w' t a c (.slice ab nl cb) l) := fun w1 q => by
    refine (trees_14 _ l er T R hx (by omega) w1 q.rd).mono ?_
    rintro e w' ⟨k, n, s, a', ln, c', v', rfl, q1, q2, q3⟩
    exact ⟨_, _, _, _, _, _, _, rfl, q1, q2, q.below q3⟩
  have H15 : Hid (∀ w1, Mt w w1 t a c (.slice ab nl cb) l → Calls Try.prog 15 #[.slice ab nl cb] w1 fun e w' => ∃ k n s a' ln c' kk, e = .returned (.tuple #[.agg #[.int .i64 k, .int .i64 n, .string s, .slice a' ln c'], .int .i64 (kk : Nat), .int .i64 er]) ∧ Tre w' (fun _ => True) (.agg #[.int .i64 k, .int .i64 n, .string s, .slice a' ln c']) T ∧ kk ≤ nl ∧ (er = 0 → R = l.drop kk) ∧ Below w1.heap.size w1 w' ∧ Mt w w' t a c (.slice ab nl cb) l) := fun w1 q => by
    refine (trees_15 _ l er T R hx (by omega) w1 q.rd).mono ?_
    rintro e w' ⟨k, n, s, a', ln, c', kk, rfl, q1, q2, q3, q4⟩
    exact ⟨_, _, _, _, _, _, kk, rfl, q1, by rw [hNL]; exact q2, q3, q4, q.below q4⟩
  have H18 : Hid (∀ w1, Mt w w1 t a c (.slice ab nl cb) l → Calls Try.prog 18 #[.agg #[.int .i64 t.kind, .int .i64 t.n, .string (ba t.name), .slice a t.kids.length c]] w1 fun e w' => e = .returned (.int .i64 (checkM 16 t : Nat)) ∧ Mt w w' t a c (.slice ab nl cb) l) := fun w1 q => (RCheck_any _ t _ _ _ _ _ _ w1 q.tr).mono fun e w' q1 => ⟨q1.1, q.below q1.2⟩
  have H19 : Hid (∀ w1, Mt w w1 t a c (.slice ab nl cb) l → checkM 16 t = 0 → Calls Try.prog 19 #[.slice none 0 0, .agg #[.int .i64 t.kind, .int .i64 t.n, .string (ba t.name), .slice a t.kids.length c]] w1 fun e w' => ∃ v, e = .returned v ∧ V.ReadsV w' v (treeB 16 t) ∧ Mt w w' t a c (.slice ab nl cb) l) := fun w1 q hz => by
    refine (PutExpr_any w1.heap.size t _ _ _ _ _ _ _ [] w1 hz (q.tr.kept kept_lt) (V.Owns.nil _ _) (Nat.le_refl _) (by have := treeB_16 hz (q.tr.nums 16); simp; omega)).mono ?_
    rintro e w' ⟨b', rfl, q1, q2⟩
    exact ⟨b', rfl, by simpa using V.ReadsV.of_own q1, q.below (q2.below (Nat.le_refl _))⟩
  have H20 : Hid (∀ w1, Mt w w1 t a c (.slice ab nl cb) l → checkM 16 t = 0 → Calls Try.prog 20 #[.agg #[.int .i64 t.kind, .int .i64 t.n, .string (ba t.name), .slice a t.kids.length c]] w1 fun e w' => ∃ v, e = .returned v ∧ V.ReadsV w' v (treeB 16 t) ∧ Below w1.heap.size w1 w' ∧ Mt w w' t a c (.slice ab nl cb) l) := fun w1 q hz => by
    refine (XBytes_any _ t _ w1 hz q.tr).mono ?_
    rintro e w' ⟨b', rfl, q1, q2⟩
    exact ⟨b', rfl, V.ReadsV.of_own q1, q2, q.below q2⟩
  have H16 : Hid (∀ v1 v2 w1, Tre w1 (fun _ => True) v1 T → Tre w1 (fun _ => True) v2 T → Calls Try.prog 16 #[v1, v2] w1 fun e w' => e = .returned (.bool true) ∧ Below w1.heap.size w1 w') := fun v1 v2 w1 q1 q2 => same_self _ _ v1 v2 w1 q1 q2
  clear hT hb H0 hNL hx
  have hck : checkM 16 t = 0 ∨ checkM 16 t ≠ 0 := by omega
  generalize checkM 16 t = ck at *
  generalize treeB 16 t = TB at *
  generalize t.kind = xk at *
  generalize t.n = xn at *
  generalize ba t.name = xs at *
  generalize t.kids.length = xl at *
  have hez : ¬ (er : Int) = 0 := by omega
  go_enter Try.func4, Try.ntmps4
  go_wp2_with (first
    | (go_at_call 16; have := T3; refine (H16.out _ _ _ (T3.out.2.2.1.alloc _) (T3.out.2.2.2.alloc _)).mono ?_; rintro e w4 ⟨rfl, q1⟩; have T4 : Hid (Mt w w4 t a c (.slice ab nl cb) l ∧ V.ReadsV w4 v2 R) := ⟨T3.out.1.below ((below_new q1)), T3.out.2.1.below (below_new q1)⟩; obtain ⟨x0, x1, x2, x3⟩ := HC.out _ T4.out.1; clear q1 T3; have T5 : Hid (Mt w w4 t a c (.slice ab nl cb) l) := T4.out.1)
    | (go_at_call 15; have := T2; refine (H15.out _ (T2.out.1.below ((Below.refl _ _).alloc (Nat.le_refl _) _))).mono ?_; rintro e w3 ⟨zk, zn, zs, za, zl, zc, kk, rfl, q1, hkk, q2, q3, q4⟩; have T3 : Hid (Mt w w3 t a c (.slice ab nl cb) l ∧ V.ReadsV w3 v2 R ∧ Tre w3 (fun _ => True) (.agg #[.int .i64 yk, .int .i64 yn, .string ys, .slice ya yl yc]) T ∧ Tre w3 (fun _ => True) (.agg #[.int .i64 zk, .int .i64 zn, .string zs, .slice za zl zc]) T) := ⟨q4, T2.out.2.2.below (below_new q3), T2.out.2.1.below (below_new q3), q1⟩;  obtain ⟨y0, y1, y2, y3, y4⟩ := (Cell4.new w2 (.int .i64 yk) (.int .i64 yn) (.string ys) (.slice ya yl yc) 31).below q3; have hly := World.block_lt_of_cell? _ _ y0; obtain ⟨x0, x1, x2, x3⟩ := HC.out _ q4; clear q1 q2 q3 q4 T2)
    | (go_at_call 14; have := T1; refine (H14.out _ T1.out).mono ?_; rintro e w2 ⟨yk, yn, ys, ya, yl, yc, v2, rfl, q1, q2, q3⟩; have T2 : Hid (Mt w w2 t a c (.slice ab nl cb) l ∧ Tre w2 (fun _ => True) (.agg #[.int .i64 yk, .int .i64 yn, .string ys, .slice ya yl yc]) T ∧ V.ReadsV w2 v2 R) := ⟨q3, q1, q2⟩; obtain ⟨x0, x1, x2, x3⟩ := HC.out _ q3; clear q1 q2 q3 T1)
    | (go_at_call 10; have := T1; refine (H10.out _ T1.out).mono ?_; rintro e wz ⟨rfl, qz⟩; have TZ : Hid (Mt w wz t a c (.slice ab nl cb) l) := qz; clear qz)
    | (go_at_call 13; refine H13.out.mono ?_; rintro e w1 ⟨z, rfl, q1⟩; have T1 : Hid (Mt w w1 t a c (.slice ab nl cb) l) := q1; obtain ⟨x0, x1, x2, x3⟩ := HC.out _ q1; clear q1; rcases Int.lt_or_le 300 z with hz3 | hz3))
  all_goals first
    | (go_ret; exact ⟨rfl, TZ.out.bel⟩)
    | (have := T5
       rcases hck with hz | hz
       · subst hz
         go_region_held3 (fun w' => w'.cell? ⟨w.heap.size, 0, none⟩ = some (.int .i64 xk) ∧ w'.cell? ⟨w.heap.size, 1, none⟩ = some (.int .i64 xn) ∧ w'.cell? ⟨w.heap.size, 2, none⟩ = some (.string xs) ∧ w'.cell? ⟨w.heap.size, 3, none⟩ = some (.slice a xl c)) (go_keep) (first
           | (go_at_call 10; have := T9; refine (H10.out _ T9.out).mono ?_; rintro e wz ⟨rfl, qz⟩; have TZ : Hid (Mt w wz t a c (.slice ab nl cb) l) := qz; obtain ⟨z0, z1, z2, z3⟩ := HC.out _ qz; clear qz T9)
           | (go_at_call 17; have := T8; refine (V.same_yes _ _ TB _ T8.out.2.1 T8.out.2.2).mono ?_; rintro e w9 ⟨rfl, h9⟩; have h10 := h9.symm; clear h9; subst h10; have T9 : Hid (Mt w w8 t a c (.slice ab nl cb) l) := T8.out.1; clear T8)
           | (go_at_call 20; have := T7; refine (H20.out _ T7.out.1 (by first | rfl | trivial)).mono ?_; rintro e w8 ⟨v8, rfl, q1, q2, q3⟩; have T8 : Hid (Mt w w8 t a c (.slice ab nl cb) l ∧ V.ReadsV w8 v7 TB ∧ V.ReadsV w8 v8 TB) := ⟨q3, T7.out.2.below q2, q1⟩; obtain ⟨z0, z1, z2, z3⟩ := HC.out _ q3; clear q1 q2 q3 T7)
           | (go_at_call 19; have := T6; refine (H19.out _ T6.out (by first | rfl | trivial)).mono ?_; rintro e w7 ⟨v7, rfl, q1, q2⟩; have T7 : Hid (Mt w w7 t a c (.slice ab nl cb) l ∧ V.ReadsV w7 v7 TB) := ⟨q2, q1⟩; obtain ⟨z0, z1, z2, z3⟩ := HC.out _ q2; clear q1 q2 T6)
           | (go_at_call 18; have := T5; refine (H18.out _ (T5.out.below (Below.drew (Below.refl _ _)))).mono ?_; rintro e w6 ⟨rfl, q1⟩; have T6 : Hid (Mt w w6 t a c (.slice ab nl cb) l) := q1; obtain ⟨z0, z1, z2, z3⟩ := HC.out _ q1; clear q1 T5)
           | (go_at_call 10; have := T6; refine (H10.out _ T6.out).mono ?_; rintro e wz ⟨rfl, qz⟩; have TZ : Hid (Mt w wz t a c (.slice ab nl cb) l) := qz; obtain ⟨z0, z1, z2, z3⟩ := HC.out _ qz; clear qz T6))
         go_wp2_with fail
         go_ret
         exact ⟨rfl, TZ.out.bel⟩
       · have hz2 : ¬ (ck : Int) = 0 := (by omega)
         go_region_with (first
           | (go_at_call 18; have := T5; refine (H18.out _ (T5.out.below (Below.drew (Below.refl _ _)))).mono ?_; rintro e w6 ⟨rfl, q1⟩; have T6 : Hid (Mt w w6 t a c (.slice ab nl cb) l) := q1; obtain ⟨z0, z1, z2, z3⟩ := HC.out _ q1; clear q1 T5)
           | (go_at_call 10; have := T6; refine (H10.out _ T6.out).mono ?_; rintro e wz ⟨rfl, qz⟩; have TZ : Hid (Mt w wz t a c (.slice ab nl cb) l) := qz; obtain ⟨z0, z1, z2, z3⟩ := HC.out _ qz; clear qz T6))
         all_goals (
           go_wp2_with fail
           go_ret
           exact ⟨rfl, TZ.out.bel⟩))
set_option maxRecDepth 100000 in
set_option maxHeartbeats 600000 in
theorem trees_ok (t : Tr) (a : Option Addr) (c : Nat) (vb : Value) (l : BB) (w : World) (hT : Tre w (fun _ => True) (.agg #[.int .i64 t.kind, .int .i64 t.n, .string (ba t.name), .slice a t.kids.length c]) t) (hb : V.ReadsV w vb l) (hl : l.length ≤ 2000) (er : Nat) (T : Tr) (R : BB) (hx : Rdx l er T R) (her : er = 0) :
    Calls Try.prog 4 #[.agg #[.int .i64 t.kind, .int .i64 t.n, .string (ba t.name), .slice a t.kids.length c], vb] w fun e w' => e = .returned (.bool true) ∧ Below w.heap.size w w' := by
  have hb' := hb
  obtain ⟨ab, cb, rfl, _⟩ := hb'
  have hcb := V.ReadsV.cap hb
  have hcm : cb ≤ 9223372036854775807 := by obtain ⟨_, _, e, _, _, q, _⟩ := hb; simp only [Value.slice.injEq] at e; rw [e.2.2]; exact q
  have hne : 0 < l.length := by
    cases l with
    | nil => obtain ⟨q, _⟩ := hx.bad 5 rfl; omega
    | cons b r => simp
  obtain ⟨g, off, rfl, hg, _⟩ := V.cells_of hb hne
  obtain ⟨nl, hNL⟩ : ∃ nl, nl = l.length := ⟨_, rfl⟩
  rw [← hNL] at hb hcb hl ⊢
  have H0 : Hid (Mt w (w.alloc (.cells #[.int .i64 t.kind, .int .i64 t.n, .string (ba t.name), .slice a t.kids.length c] 31)) t a c (.slice (some ⟨g, off, none⟩) nl cb) l) := ⟨(Below.refl _ _).alloc (Nat.le_refl _) _, hT.alloc _, hb.below ((Below.refl _ _).alloc (Nat.le_refl _) _), Cell4.new w _ _ _ _ 31⟩
  have H13 : Hid (Calls Try.prog 13 #[.agg #[.int .i64 t.kind, .int .i64 t.n, .string (ba t.name), .slice a t.kids.length c], .int .i64 300] (w.alloc (.cells #[.int .i64 t.kind, .int .i64 t.n, .string (ba t.name), .slice a t.kids.length c] 31)) fun e w' => ∃ z : Int, e = .returned (.int .i64 z) ∧ Mt w w' t a c (.slice (some ⟨g, off, none⟩) nl cb) l) := by
    refine (weightT_any (fun _ => True) t _ _ _ _ _ _ 300 _ ⟨by decide, by decide⟩ H0.out.tr).mono ?_
    rintro e w' ⟨z, rfl, _, q⟩
    exact ⟨z, rfl, H0.out.below q⟩
  have H10 : Hid (∀ w1, Mt w w1 t a c (.slice (some ⟨g, off, none⟩) nl cb) l → Calls Try.prog 10 #[] w1 fun e w' => e = .returned (.bool true) ∧ Mt w w' t a c (.slice (some ⟨g, off, none⟩) nl cb) l) := fun w1 q => (works_any w1).mono fun e w' q1 => ⟨q1.1, q.below q1.2⟩
  have HC : Hid (∀ w1, Mt w w1 t a c (.slice (some ⟨g, off, none⟩) nl cb) l → w1.cell? ⟨w.heap.size, 0, none⟩ = some (.int .i64 t.kind) ∧ w1.cell? ⟨w.heap.size, 1, none⟩ = some (.int .i64 t.n) ∧ w1.cell? ⟨w.heap.size, 2, none⟩ = some (.string (ba t.name)) ∧ w1.cell? ⟨w.heap.size, 3, none⟩ = some (.slice a t.kids.length c)) := fun _ q => ⟨q.cx.c0, q.cx.c1, q.cx.c2, q.cx.c3⟩
  have H14 : Hid (∀ w1, Mt w w1 t a c (.slice (some ⟨g, off, none⟩) nl cb) l → Calls Try.prog 14 #[.slice (some ⟨g, off, none⟩) nl cb] w1 fun e w' => ∃ k n s a' ln c' v', e = .returned (.tuple #[.agg #[.int .i64 k, .int .i64 n, .string s, .slice a' ln c'], v', .int .i64 er]) ∧ Tre w' (fun _ => True) (.agg #[.int .i64 k, .int .i64 n, .string s, .slice a' ln c']) T ∧ V.ReadsV w' v' R ∧ Mt w w' t a c (.slice (some ⟨g, off, none⟩) nl cb) l) := fun w1 q => by
    refine (trees_14 _ l er T R hx (by omega) w1 q.rd).mono ?_
    rintro e w' ⟨k, n, s, a', ln, c', v', rfl, q1, q2, q3⟩
    exact ⟨_, _, _, _, _, _, _, rfl, q1, q2, q.below q3⟩
  have H15 : Hid (∀ w1, Mt w w1 t a c (.slice (some ⟨g, off, none⟩) nl cb) l → Calls Try.prog 15 #[.slice (some ⟨g, off, none⟩) nl cb] w1 fun e w' => ∃ k n s a' ln c' kk, e = .returned (.tuple #[.agg #[.int .i64 k, .int .i64 n, .string s, .slice a' ln c'], .int .i64 (kk : Nat), .int .i64 er]) ∧ Tre w' (fun _ => True) (.agg #[.int .i64 k, .int .i64 n, .string s, .slice a' ln c']) T ∧ kk ≤ nl ∧ (er = 0 → R = l.drop kk) ∧ Below w1.heap.size w1 w' ∧ Mt w w' t a c (.slice (some ⟨g, off, none⟩) nl cb) l) := fun w1 q => by
    refine (trees_15 _ l er T R hx (by omega) w1 q.rd).mono ?_
    rintro e w' ⟨k, n, s, a', ln, c', kk, rfl, q1, q2, q3, q4⟩
    exact ⟨_, _, _, _, _, _, kk, rfl, q1, by rw [hNL]; exact q2, q3, q4, q.below q4⟩
  have H18 : Hid (∀ w1, Mt w w1 t a c (.slice (some ⟨g, off, none⟩) nl cb) l → Calls Try.prog 18 #[.agg #[.int .i64 t.kind, .int .i64 t.n, .string (ba t.name), .slice a t.kids.length c]] w1 fun e w' => e = .returned (.int .i64 (checkM 16 t : Nat)) ∧ Mt w w' t a c (.slice (some ⟨g, off, none⟩) nl cb) l) := fun w1 q => (RCheck_any _ t _ _ _ _ _ _ w1 q.tr).mono fun e w' q1 => ⟨q1.1, q.below q1.2⟩
  have H19 : Hid (∀ w1, Mt w w1 t a c (.slice (some ⟨g, off, none⟩) nl cb) l → checkM 16 t = 0 → Calls Try.prog 19 #[.slice none 0 0, .agg #[.int .i64 t.kind, .int .i64 t.n, .string (ba t.name), .slice a t.kids.length c]] w1 fun e w' => ∃ v, e = .returned v ∧ V.ReadsV w' v (treeB 16 t) ∧ Mt w w' t a c (.slice (some ⟨g, off, none⟩) nl cb) l) := fun w1 q hz => by
    refine (PutExpr_any w1.heap.size t _ _ _ _ _ _ _ [] w1 hz (q.tr.kept kept_lt) (V.Owns.nil _ _) (Nat.le_refl _) (by have := treeB_16 hz (q.tr.nums 16); simp; omega)).mono ?_
    rintro e w' ⟨b', rfl, q1, q2⟩
    exact ⟨b', rfl, by simpa using V.ReadsV.of_own q1, q.below (q2.below (Nat.le_refl _))⟩
  have H20 : Hid (∀ w1, Mt w w1 t a c (.slice (some ⟨g, off, none⟩) nl cb) l → checkM 16 t = 0 → Calls Try.prog 20 #[.agg #[.int .i64 t.kind, .int .i64 t.n, .string (ba t.name), .slice a t.kids.length c]] w1 fun e w' => ∃ v, e = .returned v ∧ V.ReadsV w' v (treeB 16 t) ∧ Below w1.heap.size w1 w' ∧ Mt w w' t a c (.slice (some ⟨g, off, none⟩) nl cb) l) := fun w1 q hz => by
    refine (XBytes_any _ t _ w1 hz q.tr).mono ?_
    rintro e w' ⟨b', rfl, q1, q2⟩
    exact ⟨b', rfl, V.ReadsV.of_own q1, q2, q.below q2⟩
  have H16 : Hid (∀ v1 v2 w1, Tre w1 (fun _ => True) v1 T → Tre w1 (fun _ => True) v2 T → Calls Try.prog 16 #[v1, v2] w1 fun e w' => e = .returned (.bool true) ∧ Below w1.heap.size w1 w') := fun v1 v2 w1 q1 q2 => same_self _ _ v1 v2 w1 q1 q2
  have HCut : Hid (∀ w1 kk, V.ReadsV w1 (.slice (some ⟨g, off, none⟩) nl cb) l → kk ≤ nl → (cb = kk → V.ReadsV w1 (.slice (some ⟨g, off, none⟩) 0 0) (l.drop kk)) ∧ (¬ cb = kk → V.ReadsV w1 (.slice (some ⟨g, off + kk, none⟩) (nl - kk) (cb - kk)) (l.drop kk))) := fun w1 kk q hk => ⟨fun hc => V.tailB (b := some ⟨g, off, none⟩) (k := kk) q (by omega), fun hc => by
    have := V.tailA (k := kk) q hk hc
    simpa [V.add_plain] using this⟩
  clear hT hb H0 hNL hx
  have hck : checkM 16 t = 0 ∨ checkM 16 t ≠ 0 := by omega
  generalize checkM 16 t = ck at *
  generalize treeB 16 t = TB at *
  generalize t.kind = xk at *
  generalize t.n = xn at *
  generalize ba t.name = xs at *
  generalize t.kids.length = xl at *
  subst her
  go_enter Try.func4, Try.ntmps4
  go_wp2_with (first
    | (go_at_call 17; have := T4; refine (V.same_yes _ _ R _ T4.out.2.1 (by first | exact T4.out.2.2.1 (by first | rfl | trivial) | exact T4.out.2.2.2 (by assumption))).mono ?_; rintro e w5 ⟨rfl, h5⟩; have h6 := h5.symm; clear h5; subst h6; have T5 : Hid (Mt w w4 t a c (.slice (some ⟨g, off, none⟩) nl cb) l) := T4.out.1; obtain ⟨x0, x1, x2, x3⟩ := HC.out _ T4.out.1)
    | (go_at_call 16; have := T3; refine (H16.out _ _ _ (T3.out.2.2.1.alloc _) (T3.out.2.2.2.alloc _)).mono ?_; rintro e w4 ⟨rfl, q1⟩; have T4 : Hid (Mt w w4 t a c (.slice (some ⟨g, off, none⟩) nl cb) l ∧ V.ReadsV w4 v2 R ∧ (cb = kk → V.ReadsV w4 (.slice (some ⟨g, off, none⟩) 0 0) R) ∧ (¬ cb = kk → V.ReadsV w4 (.slice (some ⟨g, off + kk, none⟩) (nl - kk) (cb - kk)) R)) := ⟨T3.out.1.below ((below_new q1)), T3.out.2.1.below (below_new q1), (by have := (HCut.out _ kk (T3.out.1.below (below_new q1)).rd hkk).1; rw [← HRk.out] at this; exact this), (by have := (HCut.out _ kk (T3.out.1.below (below_new q1)).rd hkk).2; rw [← HRk.out] at this; exact this)⟩; obtain ⟨x0, x1, x2, x3⟩ := HC.out _ T4.out.1; clear q1 T3; rcases Decidable.em (cb = kk) with hct | hct; subst hct; rotate_left; have hct2 : ¬ kk = cb := (fun q => hct q.symm))
    | (go_at_call 15; have := T2; refine (H15.out _ (T2.out.1.below ((Below.refl _ _).alloc (Nat.le_refl _) _))).mono ?_; rintro e w3 ⟨zk, zn, zs, za, zl, zc, kk, rfl, q1, hkk, q2, q3, q4⟩; have T3 : Hid (Mt w w3 t a c (.slice (some ⟨g, off, none⟩) nl cb) l ∧ V.ReadsV w3 v2 R ∧ Tre w3 (fun _ => True) (.agg #[.int .i64 yk, .int .i64 yn, .string ys, .slice ya yl yc]) T ∧ Tre w3 (fun _ => True) (.agg #[.int .i64 zk, .int .i64 zn, .string zs, .slice za zl zc]) T) := ⟨q4, T2.out.2.2.below (below_new q3), T2.out.2.1.below (below_new q3), q1⟩; have HRk : Hid (R = l.drop kk) := q2 (by first | trivial | rfl); obtain ⟨y0, y1, y2, y3, y4⟩ := (Cell4.new w2 (.int .i64 yk) (.int .i64 yn) (.string ys) (.slice ya yl yc) 31).below q3; have hly := World.block_lt_of_cell? _ _ y0; obtain ⟨x0, x1, x2, x3⟩ := HC.out _ q4; clear q1 q2 q3 q4 T2)
    | (go_at_call 14; have := T1; refine (H14.out _ T1.out).mono ?_; rintro e w2 ⟨yk, yn, ys, ya, yl, yc, v2, rfl, q1, q2, q3⟩; have T2 : Hid (Mt w w2 t a c (.slice (some ⟨g, off, none⟩) nl cb) l ∧ Tre w2 (fun _ => True) (.agg #[.int .i64 yk, .int .i64 yn, .string ys, .slice ya yl yc]) T ∧ V.ReadsV w2 v2 R) := ⟨q3, q1, q2⟩; obtain ⟨x0, x1, x2, x3⟩ := HC.out _ q3; clear q1 q2 q3 T1)
    | (go_at_call 10; have := T1; refine (H10.out _ T1.out).mono ?_; rintro e wz ⟨rfl, qz⟩; have TZ : Hid (Mt w wz t a c (.slice (some ⟨g, off, none⟩) nl cb) l) := qz; clear qz)
    | (go_at_call 13; refine H13.out.mono ?_; rintro e w1 ⟨z, rfl, q1⟩; have T1 : Hid (Mt w w1 t a c (.slice (some ⟨g, off, none⟩) nl cb) l) := q1; obtain ⟨x0, x1, x2, x3⟩ := HC.out _ q1; clear q1; rcases Int.lt_or_le 300 z with hz3 | hz3))
  all_goals first
    | (go_ret; exact ⟨rfl, TZ.out.bel⟩)
    | (have := T5
       rcases hck with hz | hz
       · subst hz
         go_region_held3 (fun w' => w'.cell? ⟨w.heap.size, 0, none⟩ = some (.int .i64 xk) ∧ w'.cell? ⟨w.heap.size, 1, none⟩ = some (.int .i64 xn) ∧ w'.cell? ⟨w.heap.size, 2, none⟩ = some (.string xs) ∧ w'.cell? ⟨w.heap.size, 3, none⟩ = some (.slice a xl c)) (go_keep) (first
           | (go_at_call 10; have := T9; refine (H10.out _ T9.out).mono ?_; rintro e wz ⟨rfl, qz⟩; have TZ : Hid (Mt w wz t a c (.slice (some ⟨g, off, none⟩) nl cb) l) := qz; obtain ⟨z0, z1, z2, z3⟩ := HC.out _ qz; clear qz T9)
           | (go_at_call 17; have := T8; refine (V.same_yes _ _ TB _ T8.out.2.1 T8.out.2.2).mono ?_; rintro e w9 ⟨rfl, h9⟩; have h10 := h9.symm; clear h9; subst h10; have T9 : Hid (Mt w w8 t a c (.slice (some ⟨g, off, none⟩) nl cb) l) := T8.out.1; clear T8)
           | (go_at_call 20; have := T7; refine (H20.out _ T7.out.1 (by first | rfl | trivial)).mono ?_; rintro e w8 ⟨v8, rfl, q1, q2, q3⟩; have T8 : Hid (Mt w w8 t a c (.slice (some ⟨g, off, none⟩) nl cb) l ∧ V.ReadsV w8 v7 TB ∧ V.ReadsV w8 v8 TB) := ⟨q3, T7.out.2.below q2, q1⟩; obtain ⟨z0, z1, z2, z3⟩ := HC.out _ q3; clear q1 q2 q3 T7)
           | (go_at_call 19; have := T6; refine (H19.out _ T6.out (by first | rfl | trivial)).mono ?_; rintro e w7 ⟨v7, rfl, q1, q2⟩; have T7 : Hid (Mt w w7 t a c (.slice (some ⟨g, off, none⟩) nl cb) l ∧ V.ReadsV w7 v7 TB) := ⟨q2, q1⟩; obtain ⟨z0, z1, z2, z3⟩ := HC.out _ q2; clear q1 q2 T6)
           | (go_at_call 18; have := T5; refine (H18.out _ (T5.out.below (Below.drew (Below.refl _ _)))).mono ?_; rintro e w6 ⟨rfl, q1⟩; have T6 : Hid (Mt w w6 t a c (.slice (some ⟨g, off, none⟩) nl cb) l) := q1; obtain ⟨z0, z1, z2, z3⟩ := HC.out _ q1; clear q1 T5)
           | (go_at_call 10; have := T6; refine (H10.out _ T6.out).mono ?_; rintro e wz ⟨rfl, qz⟩; have TZ : Hid (Mt w wz t a c (.slice (some ⟨g, off, none⟩) nl cb) l) := qz; obtain ⟨z0, z1, z2, z3⟩ := HC.out _ qz; clear qz T6))
         go_wp2_with fail
         go_ret
         exact ⟨rfl, TZ.out.bel⟩
       · have hz2 : ¬ (ck : Int) = 0 := (by omega)
         go_region_with (first
           | (go_at_call 18; have := T5; refine (H18.out _ (T5.out.below (Below.drew (Below.refl _ _)))).mono ?_; rintro e w6 ⟨rfl, q1⟩; have T6 : Hid (Mt w w6 t a c (.slice (some ⟨g, off, none⟩) nl cb) l) := q1; obtain ⟨z0, z1, z2, z3⟩ := HC.out _ q1; clear q1 T5)
           | (go_at_call 10; have := T6; refine (H10.out _ T6.out).mono ?_; rintro e wz ⟨rfl, qz⟩; have TZ : Hid (Mt w wz t a c (.slice (some ⟨g, off, none⟩) nl cb) l) := qz; obtain ⟨z0, z1, z2, z3⟩ := HC.out _ qz; clear qz T6))
         all_goals (
           go_wp2_with fail
           go_ret
           exact ⟨rfl, TZ.out.bel⟩))
end Go.Proofs.Ytjafjheffbbkmaa

/-
  Are two logs the same: contracts of both sides.
-/
import Derived.Test.YtmpmbgjdbahmbaaSmc
import Derived.Test.YtmpmbgjdbahmbaaSmd
namespace Go.Proofs.Ytmpmbgjdbahmbaa
open Go.RowKit
set_option linter.unusedVariables false

def sameM (b bt : Int) (l : List En) (b2 bt2 : Int) (m : List En) : Bool := decide (b = b2) && (decide (bt = bt2) && decide (l = m))
theorem same_iff {b bt b2 bt2 : Int} {l m : List En} : sameM b bt l b2 bt2 m = true ↔ b = b2 ∧ bt = bt2 ∧ l = m := by unfold sameM; simp
theorem same_self (b bt : Int) (l : List En) : sameM b bt l b bt l = true := same_iff.2 ⟨rfl, rfl, rfl⟩
theorem b2 {w w' : World} {o o2 : Obj} (h : Below ((w.alloc o).alloc o2).heap.size ((w.alloc o).alloc o2) w') : Below w.heap.size w w' := b1 (b1 h)
set_option maxRecDepth 100000 in
set_option maxHeartbeats 400000 in
theorem RSame_any (P Q : Nat → Prop) (b bt b' bt' : Int) (a a2 : Option Addr) (c c2 : Nat) (l m : List En) (w : World) (hv : EnsV w P a c l) (hu : EnsV w Q a2 c2 m) : Calls Try.prog 14 #[.agg #[.int .i64 b, .int .i64 bt, .slice a l.length c], .agg #[.int .i64 b', .int .i64 bt', .slice a2 m.length c2]] w fun e w' => e = .returned (.bool (sameM b bt l b' bt' m)) ∧ Below w.heap.size w w' := by
  have HE : Hid (∀ o o2, Calls Try.prog 22 #[.slice a l.length c, .slice a2 m.length c2] ((w.alloc o).alloc o2) fun e w' => e = .returned (.bool (decide (l = m))) ∧ Below w.heap.size w w') := fun o o2 => (Entries_any P Q a a2 c c2 l m _ ((hv.alloc o).alloc o2) ((hu.alloc o).alloc o2)).mono fun e w' q => ⟨q.1, b2 q.2⟩
  have HB0 : Hid (∀ o o2, Below w.heap.size w ((w.alloc o).alloc o2)) := fun o o2 => ((Below.refl _ _).alloc (Nat.le_refl _) o).alloc (le_alloc _ _) o2
  unfold sameM
  generalize decide (l = m) = r at *
  generalize l.length = x at *
  generalize m.length = y at *
  clear hv hu
  by_cases e1 : b = b'
  · subst e1
    by_cases e2 : bt = bt'
    · subst e2
      rw [decide_eq_true rfl, decide_eq_true rfl, Bool.true_and, Bool.true_and]
      go_enter Try.func14, Try.ntmps14
      go_wp2_with (go_at_call 22; refine (HE.out _ _).mono ?_; rintro e w1 ⟨rfl, HB⟩; have HB1 : Hid (Below w.heap.size w w1) := HB; clear HB)
      go_ret
      exact ⟨rfl, HB1.out⟩
    · rw [decide_eq_true rfl, decide_eq_false e2]
      have e3 : (bt == bt') = false := beq_eq_false_iff_ne.2 e2
      go_enter Try.func14, Try.ntmps14
      go_wp2
      go_ret
      exact ⟨rfl, HB0.out _ _⟩
  · rw [decide_eq_false e1]
    have e3 : (b == b') = false := beq_eq_false_iff_ne.2 e1
    go_enter Try.func14, Try.ntmps14
    go_wp2
    go_ret
    exact ⟨rfl, HB0.out _ _⟩
theorem Cell2.second (w : World) (o : Obj) (v0 v1 : Value) (t : TypeId) : Cell2 ((w.alloc o).alloc (.cells #[v0, v1] t)) (w.heap.size + 1) v0 v1 := by
  have := Cell2.new (w.alloc o) v0 v1 t
  rw [size_alloc] at this
  exact this
theorem Cell3.second (w : World) (o : Obj) (v0 v1 v2 : Value) (t : TypeId) : Cell3 ((w.alloc o).alloc (.cells #[v0, v1, v2] t)) (w.heap.size + 1) v0 v1 v2 := by
  have := Cell3.new (w.alloc o) v0 v1 v2 t
  rw [size_alloc] at this
  exact this
theorem Cell3.below {w w' : World} {b : Nat} {v0 v1 v2 : Value} (h : Cell3 w b v0 v1 v2) (hf : Below w.heap.size w w') : Cell3 w' b v0 v1 v2 := h.kept (hf.block b h.lt)
theorem below2 (w : World) (o o2 : Obj) : Below w.heap.size w ((w.alloc o).alloc o2) := ((Below.refl _ _).alloc (Nat.le_refl _) o).alloc (le_alloc _ _) o2
set_option maxRecDepth 100000 in
theorem begin_any (b bt : Int) (a : Option Addr) (n c : Nat) (w : World) : Calls Try.prog 36 #[.agg #[.int .i64 b, .int .i64 bt, .slice a n c]] w fun e w' => e = .returned (.agg #[.int .i64 b, .int .i64 bt]) ∧ Below w.heap.size w w' := by
  go_enter Try.func36, Try.ntmps36
  go_wp2
  obtain ⟨e0, e1, _⟩ := Cell2.second w (.cells #[.int .i64 b, .int .i64 bt, .slice a n c] 24) (.int .i64 b) (.int .i64 bt) 55
  exact bodyPost_ret (v := .agg #[.int .i64 b, .int .i64 bt]) (by simp [results, Try.results36, go_sem, e0, e1]) rfl ⟨rfl, below2 _ _ _⟩
/-- Two logs in their boxes. -/
structure Bx2 (w : World) (p q : Nat) (b bt : Int) (v : Value) (b' bt' : Int) (v' : Value) : Prop where
  f : Cell3 w p (.int .i64 b) (.int .i64 bt) v
  g : Cell3 w q (.int .i64 b') (.int .i64 bt') v'
theorem Bx2.below {w w' : World} {p q : Nat} {b bt : Int} {v : Value} {b' bt' : Int} {v' : Value} (h : Bx2 w p q b bt v b' bt' v') (hb : Below w.heap.size w w') : Bx2 w' p q b bt v b' bt' v' := ⟨h.f.below hb, h.g.below hb⟩
theorem Bx2.new (w : World) (b bt : Int) (v : Value) (b' bt' : Int) (v' : Value) : Bx2 ((w.alloc (.cells #[.int .i64 b, .int .i64 bt, v] 24)).alloc (.cells #[.int .i64 b', .int .i64 bt', v'] 24)) w.heap.size (w.heap.size + 1) b bt v b' bt' v' :=
  ⟨(Cell3.new w _ _ _ 24).below ((Below.refl _ _).alloc (Nat.le_refl _) _), Cell3.second w _ _ _ _ 24⟩
theorem Bx2.at_ {w wx : World} {b bt : Int} {v : Value} {b' bt' : Int} {v' : Value} (h : Below (w.heap.size + 1 + 1) ((w.alloc (.cells #[.int .i64 b, .int .i64 bt, v] 24)).alloc (.cells #[.int .i64 b', .int .i64 bt', v'] 24)) wx) : Bx2 wx w.heap.size (w.heap.size + 1) b bt v b' bt' v' ∧ Below w.heap.size w wx := by
  have e : ((w.alloc (.cells #[.int .i64 b, .int .i64 bt, v] 24)).alloc (.cells #[.int .i64 b', .int .i64 bt', v'] 24)).heap.size = w.heap.size + 1 + 1 := by rw [size_alloc, size_alloc]
  rw [← e] at h
  exact ⟨(Bx2.new w b bt v b' bt' v').below h, b2 h⟩
theorem eq55 (d : Nat) (b bt b' bt' : Int) (w : World) : (Op.equalIn (d + 2) 55 (.agg #[.int .i64 b, .int .i64 bt]) (.agg #[.int .i64 b', .int .i64 bt'])).run Try.prog w = .ok ((b == b') && (bt == bt')) w := by
  have hsz : (sizeOf 3).run Try.prog w = .ok 1 w := by simp [Try.sizeOf3]
  rw [Op.equalIn]
  simp only [Sem.run_bind, run_underlying Try.underlying55, Result.andThen_ok, hsz, Std.Legacy.Range.forIn_eq_forIn_range', Std.Legacy.Range.size, Nat.sub_zero, Nat.add_sub_cancel, Nat.div_one]
  have px : ∀ (x y : Int) (i : Nat), i < 2 → (part 3 #[.int .i64 x, .int .i64 y] (i * 1)).run Try.prog w = .ok (.int .i64 (if i = 0 then x else y)) w := fun x y i hi => by
    have : i = 0 ∨ i = 1 := by omega
    rcases this with rfl | rfl <;> simp [part, isAgg, run_underlying Try.underlying3]
  have pe : ∀ (x y : Int), (Op.equalIn (d + 1) 3 (.int .i64 x) (.int .i64 y)).run Try.prog w = .ok (x == y) w := fun x y => run_equalIn_int w d 3 .i64 .i64 x y Try.underlying3
  rw [show List.range' 0 2 1 = [0, 1] from rfl]
  simp only [List.forIn_cons, List.forIn_nil, Sem.run_bind, px _ _ 0 (by decide), pe, Result.andThen_ok]
  cases h1 : (b == b')
  · simp [h1]
  · cases h2 : (bt == bt') <;> simp [h1, h2, px _ _ 1 (by decide), pe, Sem.run_bind, Result.andThen_ok]
theorem guard55 : Try.prog.eqGuardType Try.prog.depth 55 = false := by kernel_rfl
set_option maxRecDepth 100000 in
set_option maxHeartbeats 1200000 in
theorem Same_eq (P Q : Nat → Prop) (b bt : Int) (a a2 : Option Addr) (c c2 : Nat) (l m : List En) (w : World) (hv : EnsV w P a c l) (hu : EnsV w Q a2 c2 m) : Calls Try.prog 13 #[.agg #[.int .i64 b, .int .i64 bt, .slice a l.length c], .agg #[.int .i64 b, .int .i64 bt, .slice a2 m.length c2]] w fun e w' => e = .returned (.bool (sameM b bt l b bt m)) ∧ Below w.heap.size w w' := by
  have h1 := hv.cap1
  have h2 := hv.cap2
  have h3 := hu.cap1
  have h4 := hu.cap2
  unfold sameM
  rw [decide_eq_true rfl, decide_eq_true rfl, Bool.true_and, Bool.true_and]
  by_cases hl : l.length = m.length
  · have HY : Hid ((∀ j, j < l.length → (l.getD j zE).1 = (m.getD j zE).1 ∧ (l.getD j zE).2 = (m.getD j zE).2) → decide (l = m) = true) := fun q => ens_yes hl q
    have HN : Hid (∀ i, i < l.length → (¬ (l.getD i zE).1 = (m.getD i zE).1 ∨ ¬ (l.getD i zE).2 = (m.getD i zE).2) → decide (l = m) = false) := fun i hi q => ens_no hi hl q
    have HCl : Hid (∀ wr i, Below w.heap.size w wr → i < l.length → ∃ g o g2 o2 ka kn kc ja jn jc, a = some ⟨g, o, none⟩ ∧ a2 = some ⟨g2, o2, none⟩ ∧ wr.cell? ⟨g, o + i * 2, none⟩ = some (.int .i64 (l.getD i zE).1) ∧ wr.cell? ⟨g, o + i * 2 + 1, none⟩ = some (.slice ka kn kc) ∧ wr.cell? ⟨g2, o2 + i * 2, none⟩ = some (.int .i64 (m.getD i zE).1) ∧ wr.cell? ⟨g2, o2 + i * 2 + 1, none⟩ = some (.slice ja jn jc) ∧ g < wr.heap.size ∧ g2 < wr.heap.size ∧ ∀ O k, Calls Try.prog 37 #[.slice ka kn kc, .slice ja jn jc] ((wr.alloc O).drewN k) fun e w' => e = .returned (.bool (decide ((l.getD i zE).2 = (m.getD i zE).2))) ∧ w' = (wr.alloc O).drewN k) := fun wr i q hi => by
      obtain ⟨g, o, ka, kc, q1, q2, q3, q4, q5, q6, _⟩ := (hv.below q).at_ hi
      obtain ⟨g2, o2, ja, jc, r1, r2, r3, r4, r5, r6, _⟩ := (hu.below q).at_ (show i < m.length by omega)
      have hB : ∀ O k, Below wr.heap.size wr ((wr.alloc O).drewN k) := fun O k => below_drewN ((Below.refl _ _).alloc (Nat.le_refl _) O) k
      exact ⟨g, o, g2, o2, ka, _, kc, ja, _, jc, q1, r1, q2, q3, r2, r3, q6, r6, fun O k => Equal_any _ _ _ _ _ (q4.below (hB O k)) (r4.below (hB O k))⟩
    rw [← hl] at h3 ⊢
    generalize decide (l = m) = r at *
    generalize l.length = n at *
    clear hl hv hu
    have HBg : Hid (∀ (z1 z2 : Int) (a0 : Option Addr) (n0 c0 : Nat) (wx : World), Below (w.heap.size + 1 + 1) ((w.alloc (.cells #[.int .i64 b, .int .i64 bt, .slice a n c] 24)).alloc (.cells #[.int .i64 b, .int .i64 bt, .slice a2 n c2] 24)) wx → Calls Try.prog 36 #[.agg #[.int .i64 z1, .int .i64 z2, .slice a0 n0 c0]] wx fun e w' => e = .returned (.agg #[.int .i64 z1, .int .i64 z2]) ∧ Below (w.heap.size + 1 + 1) ((w.alloc (.cells #[.int .i64 b, .int .i64 bt, .slice a n c] 24)).alloc (.cells #[.int .i64 b, .int .i64 bt, .slice a2 n c2] 24)) w') := fun z1 z2 a0 n0 c0 wx q => (begin_any z1 z2 a0 n0 c0 wx).mono fun e w' q2 => ⟨q2.1, q.trans (q2.2.mono (by have := q.size; rw [size_alloc, size_alloc] at this; omega))⟩
    have q55 : ∀ w, (Op.equalIn 10000 55 (.agg #[.int .i64 b, .int .i64 bt]) (.agg #[.int .i64 b, .int .i64 bt])).run Try.prog w = .ok true w := fun w => by rw [eq55]; simp
    have g55 := guard55
    go_enter Try.func13, Try.ntmps13
    go_wp2
    go_region_held3 (fun w' => w'.cell? ⟨w.heap.size, 0, none⟩ = some (.int .i64 b) ∧ w'.cell? ⟨w.heap.size, 1, none⟩ = some (.int .i64 bt) ∧ w'.cell? ⟨w.heap.size, 2, none⟩ = some (.slice a n c) ∧ w'.cell? ⟨w.heap.size + 1, 0, none⟩ = some (.int .i64 b) ∧ w'.cell? ⟨w.heap.size + 1, 1, none⟩ = some (.int .i64 bt) ∧ w'.cell? ⟨w.heap.size + 1, 2, none⟩ = some (.slice a2 n c2)) (go_keep) (first
      | (go_at_call 36; refine (HBg.out _ _ _ _ _ _ (by first | exact HC.out | exact below_drewN (Below.refl _ _) _ | exact (Below.refl _ _).drew | exact Below.refl _ _)).mono ?_; rintro e w4 ⟨rfl, HB⟩; have HC : Hid (Below (w.heap.size + 1 + 1) ((w.alloc (.cells #[.int .i64 b, .int .i64 bt, .slice a n c] 24)).alloc (.cells #[.int .i64 b, .int .i64 bt, .slice a2 n c2] 24)) w4) := HB; obtain ⟨⟨⟨k0, k1, k2, k3⟩, ⟨k4, k5, k6, k7⟩⟩, _⟩ := Bx2.at_ HB; clear HB))
    go_wp2
    go_loopw [24] (fun x wr => ∃ (i : Nat), i ≤ n ∧ x = .int .i64 i ∧ Hid (Below (w.heap.size + 1 + 1) ((w.alloc (.cells #[.int .i64 b, .int .i64 bt, .slice a n c] 24)).alloc (.cells #[.int .i64 b, .int .i64 bt, .slice a2 n c2] 24)) wr ∧ ∀ j, j < i → (l.getD j zE).1 = (m.getD j zE).1 ∧ (l.getD j zE).2 = (m.getD j zE).2)) (fun x _ => n - (intOf x).toNat)
    case atStart => exact ⟨0, Nat.zero_le _, rfl, HC.out, fun j hj => absurd hj (Nat.not_lt_zero _)⟩
    case round =>
      clear k0 k1 k2 k3 k4 k5 k6 k7 HC
      obtain ⟨i, hi, rfl, HR⟩ := hrel
      obtain ⟨⟨⟨k0, k1, k2, k3⟩, ⟨k4, k5, k6, k7⟩⟩, kb⟩ := Bx2.at_ HR.out.1
      have HB : Hid (Below w.heap.size w wr) := kb
      have hs : w.heap.size + 1 < wr.heap.size := World.block_lt_of_cell? _ _ k4
      clear kb
      by_cases hlt : i < n
      · obtain ⟨g, o, g2, o2, ka, kn, kc, ja, jn, jc, rfl, rfl, x1, x2, x3, x4, x5, x6, x7⟩ := HCl.out wr i HB.out hlt
        have HEq : Hid (∀ O k, Calls Try.prog 37 #[.slice ka kn kc, .slice ja jn jc] ((wr.alloc O).drewN k) fun e w' => e = .returned (.bool (decide ((l.getD i zE).2 = (m.getD i zE).2))) ∧ w' = (wr.alloc O).drewN k) := x7
        have HA : Hid (∀ O k, Below w.heap.size w ((wr.alloc O).drewN k)) := fun O k => below_drewN (HB.out.alloc HB.out.size O) k
        have HW : Hid (∀ O k, Below (w.heap.size + 1 + 1) ((w.alloc (.cells #[.int .i64 b, .int .i64 bt, .slice (some ⟨g, o, none⟩) n c] 24)).alloc (.cells #[.int .i64 b, .int .i64 bt, .slice (some ⟨g2, o2, none⟩) n c2] 24)) ((wr.alloc O).drewN k)) := fun O k => below_drewN (HR.out.1.alloc (by omega) O) k
        clear x7
        by_cases e1 : (l.getD i zE).1 = (m.getD i zE).1
        · by_cases e2 : (l.getD i zE).2 = (m.getD i zE).2
          · have HQ : Hid (∀ j, j < i + 1 → (l.getD j zE).1 = (m.getD j zE).1 ∧ (l.getD j zE).2 = (m.getD j zE).2) := fun j hj => by
              by_cases e : j = i
              · subst e; exact ⟨e1, e2⟩
              · exact HR.out.2 j (by omega)
            rw [decide_eq_true e2] at HEq
            rw [e1] at x1
            clear HN HY HCl HR e1 e2
            generalize (m.getD i zE).1 = t at *
            go_wp2
            go_quiet (first | (go_at_call 37; exact Calls.quiet_of_same (HEq.out _ _)))
            go_wp2
            go_roundw
            case rel => exact ⟨i + 1, by omega, by go_num, HW.out _ _, HQ.out⟩
            case measure => simp [intOf]; omega
          · have HF : Hid (r = false) := HN.out i hlt (.inr e2)
            rw [decide_eq_false e2] at HEq
            rw [e1] at x1
            clear HN HY HCl HR e1 e2
            generalize (m.getD i zE).1 = t at *
            go_wp2
            go_quiet (first | (go_at_call 37; exact Calls.quiet_of_same (HEq.out _ _)))
            go_wp2
            go_ret
            exact ⟨by rw [HF.out]; rfl, HA.out _ _⟩
        · have HF : Hid (r = false) := HN.out i hlt (.inl e1)
          have e3 : ((l.getD i zE).1 == (m.getD i zE).1) = false := beq_eq_false_iff_ne.2 e1
          have e4 : ((l.getD i zE).1 != (m.getD i zE).1) = true := by rw [bne, e3]; rfl
          clear HN HY HCl HR
          generalize (l.getD i zE).1 = t0 at *
          generalize (m.getD i zE).1 = t at *
          go_wp2
          go_quiet (fail)
          go_wp2
          go_ret
          exact ⟨by rw [HF.out]; rfl, HA.out _ _⟩
      · have HT : Hid (r = true) := HY.out fun j hj => HR.out.2 j (by omega)
        clear HN HY HCl HR
        go_wp2
        go_ret
        exact ⟨by rw [HT.out]; rfl, HB.out⟩
  · have HF : Hid (decide (l = m) = false) := decide_eq_false fun e => hl (by rw [e])
    have h5 : ¬ ((l.length : Nat) : Int) = ((m.length : Nat) : Int) := by omega
    have h6 : (((l.length : Nat) : Int) == ((m.length : Nat) : Int)) = false := by rw [beq_eq_false_iff_ne]; exact h5
    have h7 : (((l.length : Nat) : Int) != ((m.length : Nat) : Int)) = true := by rw [bne, h6]; rfl
    generalize decide (l = m) = r at *
    clear hv hu hl
    generalize l.length = x at *
    generalize m.length = y at *
    have HBg : Hid (∀ (z1 z2 : Int) (a0 : Option Addr) (n0 c0 : Nat) (wx : World), Below (w.heap.size + 1 + 1) ((w.alloc (.cells #[.int .i64 b, .int .i64 bt, .slice a x c] 24)).alloc (.cells #[.int .i64 b, .int .i64 bt, .slice a2 y c2] 24)) wx → Calls Try.prog 36 #[.agg #[.int .i64 z1, .int .i64 z2, .slice a0 n0 c0]] wx fun e w' => e = .returned (.agg #[.int .i64 z1, .int .i64 z2]) ∧ Below (w.heap.size + 1 + 1) ((w.alloc (.cells #[.int .i64 b, .int .i64 bt, .slice a x c] 24)).alloc (.cells #[.int .i64 b, .int .i64 bt, .slice a2 y c2] 24)) w') := fun z1 z2 a0 n0 c0 wx q => (begin_any z1 z2 a0 n0 c0 wx).mono fun e w' q2 => ⟨q2.1, q.trans (q2.2.mono (by have := q.size; rw [size_alloc, size_alloc] at this; omega))⟩
    have q55 : ∀ w, (Op.equalIn 10000 55 (.agg #[.int .i64 b, .int .i64 bt]) (.agg #[.int .i64 b, .int .i64 bt])).run Try.prog w = .ok true w := fun w => by rw [eq55]; simp
    have g55 := guard55
    go_enter Try.func13, Try.ntmps13
    go_wp2
    go_region_held3 (fun w' => w'.cell? ⟨w.heap.size, 0, none⟩ = some (.int .i64 b) ∧ w'.cell? ⟨w.heap.size, 1, none⟩ = some (.int .i64 bt) ∧ w'.cell? ⟨w.heap.size, 2, none⟩ = some (.slice a x c) ∧ w'.cell? ⟨w.heap.size + 1, 0, none⟩ = some (.int .i64 b) ∧ w'.cell? ⟨w.heap.size + 1, 1, none⟩ = some (.int .i64 bt) ∧ w'.cell? ⟨w.heap.size + 1, 2, none⟩ = some (.slice a2 y c2)) (go_keep) (first
      | (go_at_call 36; refine (HBg.out _ _ _ _ _ _ (by first | exact HC.out | exact below_drewN (Below.refl _ _) _ | exact (Below.refl _ _).drew | exact Below.refl _ _)).mono ?_; rintro e w4 ⟨rfl, HB⟩; have HC : Hid (Below (w.heap.size + 1 + 1) ((w.alloc (.cells #[.int .i64 b, .int .i64 bt, .slice a x c] 24)).alloc (.cells #[.int .i64 b, .int .i64 bt, .slice a2 y c2] 24)) w4) := HB; obtain ⟨⟨⟨k0, k1, k2, k3⟩, ⟨k4, k5, k6, k7⟩⟩, _⟩ := Bx2.at_ HB; clear HB))
    go_wp2
    go_ret
    exact ⟨by rw [HF.out]; rfl, (Bx2.at_ HC.out).2⟩
end Go.Proofs.Ytmpmbgjdbahmbaa

/-
  Are two logs the same: contracts of both sides.
-/
import Derived.Test.YtfmfphfckaiejaaJac
import Derived.Test.YtfmfphfckaiejaaJaf
namespace Go.Proofs.Ytfmfphfckaiejaa
section
open Go.RowKit
set_option linter.unusedVariables false


def sameM (b bt : Int) (l : List En) (b2 bt2 : Int) (m : List En) : Bool := decide (b = b2) && (decide (bt = bt2) && decide (l = m))
theorem same_iff {b bt b2 bt2 : Int} {l m : List En} : sameM b bt l b2 bt2 m = true ↔ b = b2 ∧ bt = bt2 ∧ l = m := by unfold sameM; simp
theorem same_self (b bt : Int) (l : List En) : sameM b bt l b bt l = true := same_iff.2 ⟨rfl, rfl, rfl⟩
theorem b2 {w w' : World} {o o2 : Obj} (h : Below ((w.alloc o).alloc o2).heap.size ((w.alloc o).alloc o2) w') : Below w.heap.size w w' := b1 (b1 h)
set_option maxRecDepth 100000 in
set_option maxHeartbeats 400000 in
theorem RSame_any (P Q : Nat → Prop) (b bt b' bt' : Int) (a a2 : Option Addr) (c c2 : Nat) (l m : List En) (w : World) (hv : EnsV w P a c l) (hu : EnsV w Q a2 c2 m) : Calls Try.prog 34 #[.agg #[.int .i64 b, .int .i64 bt, .slice a l.length c], .agg #[.int .i64 b', .int .i64 bt', .slice a2 m.length c2]] w fun e w' => e = .returned (.bool (sameM b bt l b' bt' m)) ∧ Below w.heap.size w w' := by
  have HE : Hid (∀ o o2, Calls Try.prog 56 #[.slice a l.length c, .slice a2 m.length c2] ((w.alloc o).alloc o2) fun e w' => e = .returned (.bool (decide (l = m))) ∧ Below w.heap.size w w') := fun o o2 => (Entries_any P Q a a2 c c2 l m _ ((hv.alloc o).alloc o2) ((hu.alloc o).alloc o2)).mono fun e w' q => ⟨q.1, b2 q.2⟩
  have HB0 : Hid (∀ o o2, Below w.heap.size w ((w.alloc o).alloc o2)) := fun o o2 => ((Below.refl _ _).alloc (Nat.le_refl _) o).alloc (le_alloc _ _) o2
  unfold sameM
  generalize decide (l = m) = r at *
  generalize l.length = x at *
  generalize m.length = y at *
  clear hv hu
  by_cases e1 : b = b'
  · subst e1
    by_cases e2 : bt = bt'
    · subst e2
      rw [decide_eq_true rfl, decide_eq_true rfl, Bool.true_and, Bool.true_and]
      go_enter Try.func34, Try.ntmps34
      go_wp2_with (go_at_call 56; refine (HE.out _ _).mono ?_; rintro e w1 ⟨rfl, HB⟩; have HB1 : Hid (Below w.heap.size w w1) := HB; clear HB)
      go_ret
      exact ⟨rfl, HB1.out⟩
    · rw [decide_eq_true rfl, decide_eq_false e2]
      have e3 : (bt == bt') = false := beq_eq_false_iff_ne.2 e2
      go_enter Try.func34, Try.ntmps34
      go_wp2
      go_ret
      exact ⟨rfl, HB0.out _ _⟩
  · rw [decide_eq_false e1]
    have e3 : (b == b') = false := beq_eq_false_iff_ne.2 e1
    go_enter Try.func34, Try.ntmps34
    go_wp2
    go_ret
    exact ⟨rfl, HB0.out _ _⟩
theorem Cell2.second (w : World) (o : Obj) (v0 v1 : Value) (t : TypeId) : Cell2 ((w.alloc o).alloc (.cells #[v0, v1] t)) (w.heap.size + 1) v0 v1 := by
  have := Cell2.new (w.alloc o) v0 v1 t
  rw [size_alloc] at this
  exact this
theorem Cell3.second (w : World) (o : Obj) (v0 v1 v2 : Value) (t : TypeId) : Cell3 ((w.alloc o).alloc (.cells #[v0, v1, v2] t)) (w.heap.size + 1) v0 v1 v2 := by
  have := Cell3.new (w.alloc o) v0 v1 v2 t
  rw [size_alloc] at this
  exact this
theorem Cell3.below {w w' : World} {b : Nat} {v0 v1 v2 : Value} (h : Cell3 w b v0 v1 v2) (hf : Below w.heap.size w w') : Cell3 w' b v0 v1 v2 := h.kept (hf.block b h.lt)
theorem below2 (w : World) (o o2 : Obj) : Below w.heap.size w ((w.alloc o).alloc o2) := ((Below.refl _ _).alloc (Nat.le_refl _) o).alloc (le_alloc _ _) o2
set_option maxRecDepth 100000 in
theorem begin_any (b bt : Int) (a : Option Addr) (n c : Nat) (w : World) : Calls Try.prog 57 #[.agg #[.int .i64 b, .int .i64 bt, .slice a n c]] w fun e w' => e = .returned (.agg #[.int .i64 b, .int .i64 bt]) ∧ Below w.heap.size w w' := by
  go_enter Try.func57, Try.ntmps57
  go_wp2
  obtain ⟨e0, e1, _⟩ := Cell2.second w (.cells #[.int .i64 b, .int .i64 bt, .slice a n c] 24) (.int .i64 b) (.int .i64 bt) 93
  exact bodyPost_ret (v := .agg #[.int .i64 b, .int .i64 bt]) (by simp [results, Try.results57, go_sem, e0, e1]) rfl ⟨rfl, below2 _ _ _⟩
/-- Two logs in their boxes. -/
structure Bx2 (w : World) (p q : Nat) (b bt : Int) (v : Value) (b' bt' : Int) (v' : Value) : Prop where
  f : Cell3 w p (.int .i64 b) (.int .i64 bt) v
  g : Cell3 w q (.int .i64 b') (.int .i64 bt') v'
theorem Bx2.below {w w' : World} {p q : Nat} {b bt : Int} {v : Value} {b' bt' : Int} {v' : Value} (h : Bx2 w p q b bt v b' bt' v') (hb : Below w.heap.size w w') : Bx2 w' p q b bt v b' bt' v' := ⟨h.f.below hb, h.g.below hb⟩
theorem Bx2.new (w : World) (b bt : Int) (v : Value) (b' bt' : Int) (v' : Value) : Bx2 ((w.alloc (.cells #[.int .i64 b, .int .i64 bt, v] 24)).alloc (.cells #[.int .i64 b', .int .i64 bt', v'] 24)) w.heap.size (w.heap.size + 1) b bt v b' bt' v' :=
  ⟨(Cell3.new w _ _ _ 24).below ((Below.refl _ _).alloc (Nat.le_refl _) _), Cell3.second w _ _ _ _ 24⟩
theorem Bx2.at_ {w wx : World} {b bt : Int} {v : Value} {b' bt' : Int} {v' : Value} (h : Below (w.heap.size + 1 + 1) ((w.alloc (.cells #[.int .i64 b, .int .i64 bt, v] 24)).alloc (.cells #[.int .i64 b', .int .i64 bt', v'] 24)) wx) : Bx2 wx w.heap.size (w.heap.size + 1) b bt v b' bt' v' ∧ Below w.heap.size w wx := by
  have e : ((w.alloc (.cells #[.int .i64 b, .int .i64 bt, v] 24)).alloc (.cells #[.int .i64 b', .int .i64 bt', v'] 24)).heap.size = w.heap.size + 1 + 1 := by rw [size_alloc, size_alloc]
  rw [← e] at h
  exact ⟨(Bx2.new w b bt v b' bt' v').below h, b2 h⟩
theorem eq55 (d : Nat) (b bt b' bt' : Int) (w : World) : (Op.equalIn (d + 2) 93 (.agg #[.int .i64 b, .int .i64 bt]) (.agg #[.int .i64 b', .int .i64 bt'])).run Try.prog w = .ok ((b == b') && (bt == bt')) w := by
  have hsz : (sizeOf 3).run Try.prog w = .ok 1 w := by simp [Try.sizeOf3]
  rw [Op.equalIn]
  simp only [Sem.run_bind, run_underlying Try.underlying93, Result.andThen_ok, hsz, Std.Legacy.Range.forIn_eq_forIn_range', Std.Legacy.Range.size, Nat.sub_zero, Nat.add_sub_cancel, Nat.div_one]
  have px : ∀ (x y : Int) (i : Nat), i < 2 → (part 3 #[.int .i64 x, .int .i64 y] (i * 1)).run Try.prog w = .ok (.int .i64 (if i = 0 then x else y)) w := fun x y i hi => by
    have : i = 0 ∨ i = 1 := by omega
    rcases this with rfl | rfl <;> simp [part, isAgg, run_underlying Try.underlying3]
  have pe : ∀ (x y : Int), (Op.equalIn (d + 1) 3 (.int .i64 x) (.int .i64 y)).run Try.prog w = .ok (x == y) w := fun x y => run_equalIn_int w d 3 .i64 .i64 x y Try.underlying3
  rw [show List.range' 0 2 1 = [0, 1] from rfl]
  simp only [List.forIn_cons, List.forIn_nil, Sem.run_bind, px _ _ 0 (by decide), pe, Result.andThen_ok]
  cases h1 : (b == b')
  · simp [h1]
  · cases h2 : (bt == bt') <;> simp [h1, h2, px _ _ 1 (by decide), pe, Sem.run_bind, Result.andThen_ok]
theorem guard55 : Try.prog.eqGuardType Try.prog.depth 93 = false := by kernel_rfl
set_option maxRecDepth 100000 in
set_option maxHeartbeats 1200000 in
theorem Same_eq (P Q : Nat → Prop) (b bt : Int) (a a2 : Option Addr) (c c2 : Nat) (l m : List En) (w : World) (hv : EnsV w P a c l) (hu : EnsV w Q a2 c2 m) : Calls Try.prog 38 #[.agg #[.int .i64 b, .int .i64 bt, .slice a l.length c], .agg #[.int .i64 b, .int .i64 bt, .slice a2 m.length c2]] w fun e w' => e = .returned (.bool (sameM b bt l b bt m)) ∧ Below w.heap.size w w' := by
  have h1 := hv.cap1
  have h2 := hv.cap2
  have h3 := hu.cap1
  have h4 := hu.cap2
  unfold sameM
  rw [decide_eq_true rfl, decide_eq_true rfl, Bool.true_and, Bool.true_and]
  by_cases hl : l.length = m.length
  · have HY : Hid ((∀ j, j < l.length → (l.getD j zE).1 = (m.getD j zE).1 ∧ (l.getD j zE).2 = (m.getD j zE).2) → decide (l = m) = true) := fun q => ens_yes hl q
    have HN : Hid (∀ i, i < l.length → (¬ (l.getD i zE).1 = (m.getD i zE).1 ∨ ¬ (l.getD i zE).2 = (m.getD i zE).2) → decide (l = m) = false) := fun i hi q => ens_no hi hl q
    have HCl : Hid (∀ wr i, Below w.heap.size w wr → i < l.length → ∃ g o g2 o2 ka kn kc ja jn jc, a = some ⟨g, o, none⟩ ∧ a2 = some ⟨g2, o2, none⟩ ∧ wr.cell? ⟨g, o + i * 2, none⟩ = some (.int .i64 (l.getD i zE).1) ∧ wr.cell? ⟨g, o + i * 2 + 1, none⟩ = some (.slice ka kn kc) ∧ wr.cell? ⟨g2, o2 + i * 2, none⟩ = some (.int .i64 (m.getD i zE).1) ∧ wr.cell? ⟨g2, o2 + i * 2 + 1, none⟩ = some (.slice ja jn jc) ∧ g < wr.heap.size ∧ g2 < wr.heap.size ∧ ∀ O k, Calls Try.prog 39 #[.slice ka kn kc, .slice ja jn jc] ((wr.alloc O).drewN k) fun e w' => e = .returned (.bool (decide ((l.getD i zE).2 = (m.getD i zE).2))) ∧ w' = (wr.alloc O).drewN k) := fun wr i q hi => by
      obtain ⟨g, o, ka, kc, q1, q2, q3, q4, q5, q6, _⟩ := (hv.below q).at_ hi
      obtain ⟨g2, o2, ja, jc, r1, r2, r3, r4, r5, r6, _⟩ := (hu.below q).at_ (show i < m.length by omega)
      have hB : ∀ O k, Below wr.heap.size wr ((wr.alloc O).drewN k) := fun O k => below_drewN ((Below.refl _ _).alloc (Nat.le_refl _) O) k
      exact ⟨g, o, g2, o2, ka, _, kc, ja, _, jc, q1, r1, q2, q3, r2, r3, q6, r6, fun O k => Equal_any _ _ _ _ _ (q4.below (hB O k)) (r4.below (hB O k))⟩
    rw [← hl] at h3 ⊢
    generalize decide (l = m) = r at *
    generalize l.length = n at *
    clear hl hv hu
    have HBg : Hid (∀ (z1 z2 : Int) (a0 : Option Addr) (n0 c0 : Nat) (wx : World), Below (w.heap.size + 1 + 1) ((w.alloc (.cells #[.int .i64 b, .int .i64 bt, .slice a n c] 24)).alloc (.cells #[.int .i64 b, .int .i64 bt, .slice a2 n c2] 24)) wx → Calls Try.prog 57 #[.agg #[.int .i64 z1, .int .i64 z2, .slice a0 n0 c0]] wx fun e w' => e = .returned (.agg #[.int .i64 z1, .int .i64 z2]) ∧ Below (w.heap.size + 1 + 1) ((w.alloc (.cells #[.int .i64 b, .int .i64 bt, .slice a n c] 24)).alloc (.cells #[.int .i64 b, .int .i64 bt, .slice a2 n c2] 24)) w') := fun z1 z2 a0 n0 c0 wx q => (begin_any z1 z2 a0 n0 c0 wx).mono fun e w' q2 => ⟨q2.1, q.trans (q2.2.mono (by have := q.size; rw [size_alloc, size_alloc] at this; omega))⟩
    have q55 : ∀ w, (Op.equalIn 10000 93 (.agg #[.int .i64 b, .int .i64 bt]) (.agg #[.int .i64 b, .int .i64 bt])).run Try.prog w = .ok true w := fun w => by rw [eq55]; simp
    have g55 := guard55
    go_enter Try.func38, Try.ntmps38
    go_wp2
    go_region_held3 (fun w' => w'.cell? ⟨w.heap.size, 0, none⟩ = some (.int .i64 b) ∧ w'.cell? ⟨w.heap.size, 1, none⟩ = some (.int .i64 bt) ∧ w'.cell? ⟨w.heap.size, 2, none⟩ = some (.slice a n c) ∧ w'.cell? ⟨w.heap.size + 1, 0, none⟩ = some (.int .i64 b) ∧ w'.cell? ⟨w.heap.size + 1, 1, none⟩ = some (.int .i64 bt) ∧ w'.cell? ⟨w.heap.size + 1, 2, none⟩ = some (.slice a2 n c2)) (go_keep) (first
      | (go_at_call 57; refine (HBg.out _ _ _ _ _ _ (by first | exact HC.out | exact below_drewN (Below.refl _ _) _ | exact (Below.refl _ _).drew | exact Below.refl _ _)).mono ?_; rintro e w4 ⟨rfl, HB⟩; have HC : Hid (Below (w.heap.size + 1 + 1) ((w.alloc (.cells #[.int .i64 b, .int .i64 bt, .slice a n c] 24)).alloc (.cells #[.int .i64 b, .int .i64 bt, .slice a2 n c2] 24)) w4) := HB; obtain ⟨⟨⟨k0, k1, k2, k3⟩, ⟨k4, k5, k6, k7⟩⟩, _⟩ := Bx2.at_ HB; clear HB))
    go_wp2
    go_loopw [24] (fun x wr => ∃ (i : Nat), i ≤ n ∧ x = .int .i64 i ∧ Hid (Below (w.heap.size + 1 + 1) ((w.alloc (.cells #[.int .i64 b, .int .i64 bt, .slice a n c] 24)).alloc (.cells #[.int .i64 b, .int .i64 bt, .slice a2 n c2] 24)) wr ∧ ∀ j, j < i → (l.getD j zE).1 = (m.getD j zE).1 ∧ (l.getD j zE).2 = (m.getD j zE).2)) (fun x _ => n - (intOf x).toNat)
    case atStart => exact ⟨0, Nat.zero_le _, rfl, HC.out, fun j hj => absurd hj (Nat.not_lt_zero _)⟩
    case round =>
      clear k0 k1 k2 k3 k4 k5 k6 k7 HC
      obtain ⟨i, hi, rfl, HR⟩ := hrel
      obtain ⟨⟨⟨k0, k1, k2, k3⟩, ⟨k4, k5, k6, k7⟩⟩, kb⟩ := Bx2.at_ HR.out.1
      have HB : Hid (Below w.heap.size w wr) := kb
      have hs : w.heap.size + 1 < wr.heap.size := World.block_lt_of_cell? _ _ k4
      clear kb
      by_cases hlt : i < n
      · obtain ⟨g, o, g2, o2, ka, kn, kc, ja, jn, jc, rfl, rfl, x1, x2, x3, x4, x5, x6, x7⟩ := HCl.out wr i HB.out hlt
        have HEq : Hid (∀ O k, Calls Try.prog 39 #[.slice ka kn kc, .slice ja jn jc] ((wr.alloc O).drewN k) fun e w' => e = .returned (.bool (decide ((l.getD i zE).2 = (m.getD i zE).2))) ∧ w' = (wr.alloc O).drewN k) := x7
        have HA : Hid (∀ O k, Below w.heap.size w ((wr.alloc O).drewN k)) := fun O k => below_drewN (HB.out.alloc HB.out.size O) k
        have HW : Hid (∀ O k, Below (w.heap.size + 1 + 1) ((w.alloc (.cells #[.int .i64 b, .int .i64 bt, .slice (some ⟨g, o, none⟩) n c] 24)).alloc (.cells #[.int .i64 b, .int .i64 bt, .slice (some ⟨g2, o2, none⟩) n c2] 24)) ((wr.alloc O).drewN k)) := fun O k => below_drewN (HR.out.1.alloc (by omega) O) k
        clear x7
        by_cases e1 : (l.getD i zE).1 = (m.getD i zE).1
        · by_cases e2 : (l.getD i zE).2 = (m.getD i zE).2
          · have HQ : Hid (∀ j, j < i + 1 → (l.getD j zE).1 = (m.getD j zE).1 ∧ (l.getD j zE).2 = (m.getD j zE).2) := fun j hj => by
              by_cases e : j = i
              · subst e; exact ⟨e1, e2⟩
              · exact HR.out.2 j (by omega)
            rw [decide_eq_true e2] at HEq
            rw [e1] at x1
            clear HN HY HCl HR e1 e2
            generalize (m.getD i zE).1 = t at *
            go_wp2
            go_quiet (first | (go_at_call 39; exact Calls.quiet_of_same (HEq.out _ _)))
            go_wp2
            go_roundw
            case rel => exact ⟨i + 1, by omega, by go_num, HW.out _ _, HQ.out⟩
            case measure => simp [intOf]; omega
          · have HF : Hid (r = false) := HN.out i hlt (.inr e2)
            rw [decide_eq_false e2] at HEq
            rw [e1] at x1
            clear HN HY HCl HR e1 e2
            generalize (m.getD i zE).1 = t at *
            go_wp2
            go_quiet (first | (go_at_call 39; exact Calls.quiet_of_same (HEq.out _ _)))
            go_wp2
            go_ret
            exact ⟨by rw [HF.out]; rfl, HA.out _ _⟩
        · have HF : Hid (r = false) := HN.out i hlt (.inl e1)
          have e3 : ((l.getD i zE).1 == (m.getD i zE).1) = false := beq_eq_false_iff_ne.2 e1
          have e4 : ((l.getD i zE).1 != (m.getD i zE).1) = true := by rw [bne, e3]; rfl
          clear HN HY HCl HR
          generalize (l.getD i zE).1 = t0 at *
          generalize (m.getD i zE).1 = t at *
          go_wp2
          go_quiet (fail)
          go_wp2
          go_ret
          exact ⟨by rw [HF.out]; rfl, HA.out _ _⟩
      · have HT : Hid (r = true) := HY.out fun j hj => HR.out.2 j (by omega)
        clear HN HY HCl HR
        go_wp2
        go_ret
        exact ⟨by rw [HT.out]; rfl, HB.out⟩
  · have HF : Hid (decide (l = m) = false) := decide_eq_false fun e => hl (by rw [e])
    have h5 : ¬ ((l.length : Nat) : Int) = ((m.length : Nat) : Int) := by omega
    have h6 : (((l.length : Nat) : Int) == ((m.length : Nat) : Int)) = false := by rw [beq_eq_false_iff_ne]; exact h5
    have h7 : (((l.length : Nat) : Int) != ((m.length : Nat) : Int)) = true := by rw [bne, h6]; rfl
    generalize decide (l = m) = r at *
    clear hv hu hl
    generalize l.length = x at *
    generalize m.length = y at *
    have HBg : Hid (∀ (z1 z2 : Int) (a0 : Option Addr) (n0 c0 : Nat) (wx : World), Below (w.heap.size + 1 + 1) ((w.alloc (.cells #[.int .i64 b, .int .i64 bt, .slice a x c] 24)).alloc (.cells #[.int .i64 b, .int .i64 bt, .slice a2 y c2] 24)) wx → Calls Try.prog 57 #[.agg #[.int .i64 z1, .int .i64 z2, .slice a0 n0 c0]] wx fun e w' => e = .returned (.agg #[.int .i64 z1, .int .i64 z2]) ∧ Below (w.heap.size + 1 + 1) ((w.alloc (.cells #[.int .i64 b, .int .i64 bt, .slice a x c] 24)).alloc (.cells #[.int .i64 b, .int .i64 bt, .slice a2 y c2] 24)) w') := fun z1 z2 a0 n0 c0 wx q => (begin_any z1 z2 a0 n0 c0 wx).mono fun e w' q2 => ⟨q2.1, q.trans (q2.2.mono (by have := q.size; rw [size_alloc, size_alloc] at this; omega))⟩
    have q55 : ∀ w, (Op.equalIn 10000 93 (.agg #[.int .i64 b, .int .i64 bt]) (.agg #[.int .i64 b, .int .i64 bt])).run Try.prog w = .ok true w := fun w => by rw [eq55]; simp
    have g55 := guard55
    go_enter Try.func38, Try.ntmps38
    go_wp2
    go_region_held3 (fun w' => w'.cell? ⟨w.heap.size, 0, none⟩ = some (.int .i64 b) ∧ w'.cell? ⟨w.heap.size, 1, none⟩ = some (.int .i64 bt) ∧ w'.cell? ⟨w.heap.size, 2, none⟩ = some (.slice a x c) ∧ w'.cell? ⟨w.heap.size + 1, 0, none⟩ = some (.int .i64 b) ∧ w'.cell? ⟨w.heap.size + 1, 1, none⟩ = some (.int .i64 bt) ∧ w'.cell? ⟨w.heap.size + 1, 2, none⟩ = some (.slice a2 y c2)) (go_keep) (first
      | (go_at_call 57; refine (HBg.out _ _ _ _ _ _ (by first | exact HC.out | exact below_drewN (Below.refl _ _) _ | exact (Below.refl _ _).drew | exact Below.refl _ _)).mono ?_; rintro e w4 ⟨rfl, HB⟩; have HC : Hid (Below (w.heap.size + 1 + 1) ((w.alloc (.cells #[.int .i64 b, .int .i64 bt, .slice a x c] 24)).alloc (.cells #[.int .i64 b, .int .i64 bt, .slice a2 y c2] 24)) w4) := HB; obtain ⟨⟨⟨k0, k1, k2, k3⟩, ⟨k4, k5, k6, k7⟩⟩, _⟩ := Bx2.at_ HB; clear HB))
    go_wp2
    go_ret
    exact ⟨by rw [HF.out]; rfl, (Bx2.at_ HC.out).2⟩
end
section
open Go.RowKit
set_option linter.unusedVariables false


/-- One log in its box. -/
theorem Bx1.at_ {w wx : World} {v0 v1 v2 : Value} (h : Below (w.heap.size + 1) (w.alloc (.cells #[v0, v1, v2] 24)) wx) : Cell3 wx w.heap.size v0 v1 v2 ∧ Below w.heap.size w wx := by
  have e : (w.alloc (.cells #[v0, v1, v2] 24)).heap.size = w.heap.size + 1 := by rw [size_alloc]
  rw [← e] at h
  exact ⟨(Cell3.new w v0 v1 v2 24).below h, b1 h⟩
theorem Bx1.up {w wx w' : World} {o : Obj} (h : Below (w.heap.size + 1) (w.alloc o) wx) (h2 : Below wx.heap.size wx w') : Below (w.heap.size + 1) (w.alloc o) w' := h.trans (h2.mono (by have := h.size; rw [size_alloc] at this; exact this))
set_option maxRecDepth 100000 in
set_option maxHeartbeats 400000 in
theorem LastTerm_any (P : Nat → Prop) (b bt : Int) (a : Option Addr) (c : Nat) (es : List En) (w : World) (hb : 0 ≤ b) (hb2 : b ≤ 2199023255552) (hn : es.length ≤ 2000) (hE : EnsV w P a c es) : Calls Try.prog 29 #[.agg #[.int .i64 b, .int .i64 bt, .slice a es.length c]] w fun e w' => e = .returned (.int .i64 (termM b bt es (b + es.length)).1) ∧ Below w.heap.size w w' := by
  have HL : Hid (∀ wx, Below (w.heap.size + 1) (w.alloc (.cells #[.int .i64 b, .int .i64 bt, .slice a es.length c] 24)) wx → Calls Try.prog 49 #[.agg #[.int .i64 b, .int .i64 bt, .slice a es.length c]] wx fun e w' => e = .returned (.int .i64 (b + es.length)) ∧ Below (w.heap.size + 1) (w.alloc (.cells #[.int .i64 b, .int .i64 bt, .slice a es.length c] 24)) w') := fun wx q => (Last_any b bt a es.length c wx hb hb2 hn).mono fun e w' q2 => ⟨q2.1, Bx1.up q q2.2⟩
  have HT : Hid (∀ wx, Below (w.heap.size + 1) (w.alloc (.cells #[.int .i64 b, .int .i64 bt, .slice a es.length c] 24)) wx → Calls Try.prog 54 #[.agg #[.int .i64 b, .int .i64 bt, .slice a es.length c], .int .i64 (b + es.length)] wx fun e w' => e = .returned (.tuple #[.int .i64 (termM b bt es (b + es.length)).1, .bool (termM b bt es (b + es.length)).2]) ∧ Below (w.heap.size + 1) (w.alloc (.cells #[.int .i64 b, .int .i64 bt, .slice a es.length c] 24)) w') := fun wx q => (Term_any P b bt a c es _ wx hb hb2 hn ⟨by omega, by omega⟩ (hE.below (Bx1.at_ q).2)).mono fun e w' q2 => ⟨q2.1, Bx1.up q q2.2⟩
  generalize (termM b bt es (b + es.length)).1 = x at *
  generalize (termM b bt es (b + es.length)).2 = y at *
  generalize es.length = n at *
  clear hE
  go_enter Try.func29, Try.ntmps29
  go_wp2
  go_region_held3 (fun w' => w'.cell? ⟨w.heap.size, 0, none⟩ = some (.int .i64 b) ∧ w'.cell? ⟨w.heap.size, 1, none⟩ = some (.int .i64 bt) ∧ w'.cell? ⟨w.heap.size, 2, none⟩ = some (.slice a n c)) (go_keep) (first
    | (go_at_call 49; refine (HL.out _ (Below.refl _ _).drew).mono ?_; rintro e w4 ⟨rfl, HB⟩; have HC : Hid (Below (w.heap.size + 1) (w.alloc (.cells #[.int .i64 b, .int .i64 bt, .slice a n c] 24)) w4) := HB; obtain ⟨⟨k0, k1, k2, k3⟩, _⟩ := Bx1.at_ HB; clear HB)
    | (go_at_call 54; refine (HT.out _ HC.out).mono ?_; rintro e w5 ⟨rfl, HB⟩; have HC5 : Hid (Below (w.heap.size + 1) (w.alloc (.cells #[.int .i64 b, .int .i64 bt, .slice a n c] 24)) w5) := HB; obtain ⟨⟨k4, k5, k6, k7⟩, _⟩ := Bx1.at_ HB; clear HB))
  go_wp2
  go_ret
  exact ⟨rfl, (Bx1.at_ HC5.out).2⟩
end
section
open Go.RowKit
set_option linter.unusedVariables false
set_option linter.unusedSimpArgs false


set_option maxRecDepth 100000 in
set_option maxHeartbeats 1200000 in
theorem Same_ne (b bt b' bt' : Int) (a a2 : Option Addr) (c c2 : Nat) (x y : Nat) (w : World) (e1 : ¬ (b = b' ∧ bt = bt')) : Calls Try.prog 38 #[.agg #[.int .i64 b, .int .i64 bt, .slice a x c], .agg #[.int .i64 b', .int .i64 bt', .slice a2 y c2]] w fun e w' => e = .returned (.bool false) ∧ Below w.heap.size w w' := by
  have e3 : ((b == b') && (bt == bt')) = false := by
    cases h : ((b == b') && (bt == bt')) with
    | false => rfl
    | true => simp at h; exact absurd h e1
  have q55 : ∀ w, (Op.equalIn 10000 93 (.agg #[.int .i64 b, .int .i64 bt]) (.agg #[.int .i64 b', .int .i64 bt'])).run Try.prog w = .ok false w := fun w => by rw [eq55, e3]
  have g55 := guard55
  clear e1 e3
  have HBg : Hid (∀ (z1 z2 : Int) (a0 : Option Addr) (n0 c0 : Nat) (wx : World), Below (w.heap.size + 1 + 1) ((w.alloc (.cells #[.int .i64 b, .int .i64 bt, .slice a x c] 24)).alloc (.cells #[.int .i64 b', .int .i64 bt', .slice a2 y c2] 24)) wx → Calls Try.prog 57 #[.agg #[.int .i64 z1, .int .i64 z2, .slice a0 n0 c0]] wx fun e w' => e = .returned (.agg #[.int .i64 z1, .int .i64 z2]) ∧ Below (w.heap.size + 1 + 1) ((w.alloc (.cells #[.int .i64 b, .int .i64 bt, .slice a x c] 24)).alloc (.cells #[.int .i64 b', .int .i64 bt', .slice a2 y c2] 24)) w') := fun z1 z2 a0 n0 c0 wx q => (begin_any z1 z2 a0 n0 c0 wx).mono fun e w' q2 => ⟨q2.1, q.trans (q2.2.mono (by have := q.size; rw [size_alloc, size_alloc] at this; omega))⟩
  go_enter Try.func38, Try.ntmps38
  go_wp2
  refine wp_region_held_drew (S := (fun w' => w'.cell? ⟨w.heap.size, 0, none⟩ = some (.int .i64 b) ∧ w'.cell? ⟨w.heap.size, 1, none⟩ = some (.int .i64 bt) ∧ w'.cell? ⟨w.heap.size, 2, none⟩ = some (.slice a x c) ∧ w'.cell? ⟨w.heap.size + 1, 0, none⟩ = some (.int .i64 b') ∧ w'.cell? ⟨w.heap.size + 1, 1, none⟩ = some (.int .i64 bt') ∧ w'.cell? ⟨w.heap.size + 1, 2, none⟩ = some (.slice a2 y c2))) (by kernel_rfl) (by (try dsimp only); go_keep) (fun hHeld => ?_)
  refine wpAnyH_take (i := 0) (oi := { dst := some 7, op := Op.load 24 (Operand.tmp 2), type := 24, pos := "logs.go:152", after := #[], guard := none }) (v := (.agg #[.int .i64 b, .int .i64 bt, .slice a x c])) rfl (by kernel_rfl) (by kernel_rfl) (by kernel_rfl) (fun _ _ _ h => h) (Or.inl ⟨by rfl, ?_⟩) hHeld ?_
  · intro w hSw; (try dsimp only at hSw); go_simp
  try simp only [Act.put, List.setIfInBounds_toArray, List.set_cons_zero, List.set_cons_succ]
  refine wpAnyH_take (i := 2) (oi := { dst := some 9, op := Op.load 24 (Operand.tmp 3), type := 24, pos := "logs.go:152", after := #[], guard := none }) (v := (.agg #[.int .i64 b', .int .i64 bt', .slice a2 y c2])) rfl (by kernel_rfl) (by kernel_rfl) (by kernel_rfl) (fun _ _ _ h => h) (Or.inl ⟨by rfl, ?_⟩) hHeld ?_
  · intro w hSw; (try dsimp only at hSw); go_simp
  try simp only [Act.put, List.setIfInBounds_toArray, List.set_cons_zero, List.set_cons_succ]
  refine wpAnyH_ready (rs := [1]) (by kernel_rfl) (by simp) ?_
  refine AllReadyH.cons (o := { dst := some 8, op := Op.call { callee := Callee.value (Operand.func 57), args := #[Operand.tmp 7], argTypes := #[24] }, type := 93, pos := "logs.go:152", after := #[{ on := 0, ground := Ground.data }], guard := none }) rfl (fun K hK => ?_) AllReadyH.nil
  go_simp
  (go_at_call 57; refine (HBg.out _ _ _ _ _ _ (Below.refl _ _).drew).mono ?_; rintro e w4 ⟨rfl, HB⟩; have HC : Hid (Below (w.heap.size + 1 + 1) ((w.alloc (.cells #[.int .i64 b, .int .i64 bt, .slice a x c] 24)).alloc (.cells #[.int .i64 b', .int .i64 bt', .slice a2 y c2] 24)) w4) := HB; obtain ⟨⟨⟨k0, k1, k2, k3⟩, ⟨k4, k5, k6, k7⟩⟩, _⟩ := Bx2.at_ HB; clear HB)
  go_wp2_with fail
  clear hHeld
  refine hK.out _ _ ⟨k0, k1, k2, k4, k5, k6⟩ (fun hHeld => ?_)
  clear hK K
  try simp only [Act.put, List.setIfInBounds_toArray, List.set_cons_zero, List.set_cons_succ]
  refine wpAnyH_ready (rs := [3]) (by kernel_rfl) (by simp) ?_
  refine AllReadyH.cons (o := { dst := some 10, op := Op.call { callee := Callee.value (Operand.func 57), args := #[Operand.tmp 9], argTypes := #[24] }, type := 93, pos := "logs.go:152", after := #[{ on := 2, ground := Ground.data }, { on := 1, ground := Ground.chain }], guard := none }) rfl (fun K hK => ?_) AllReadyH.nil
  go_simp
  (go_at_call 57; refine (HBg.out _ _ _ _ _ _ HC.out).mono ?_; rintro e w5 ⟨rfl, HB⟩; have HD : Hid (Below (w.heap.size + 1 + 1) ((w.alloc (.cells #[.int .i64 b, .int .i64 bt, .slice a x c] 24)).alloc (.cells #[.int .i64 b', .int .i64 bt', .slice a2 y c2] 24)) w5) := HB; obtain ⟨⟨⟨j0, j1, j2, j3⟩, ⟨j4, j5, j6, j7⟩⟩, _⟩ := Bx2.at_ HB; clear HB)
  go_wp2_with fail
  clear hHeld
  refine hK.out _ _ ⟨j0, j1, j2, j4, j5, j6⟩ (fun hHeld => ?_)
  clear hK K
  try simp only [Act.put, List.setIfInBounds_toArray, List.set_cons_zero, List.set_cons_succ]
  refine wpAnyH_take (i := 4) (oi := { dst := some 11, op := Op.binOp BinOp.neq 93 (Operand.tmp 8) (Operand.tmp 10) 93, type := 4, pos := "logs.go:152", after := #[{ on := 1, ground := Ground.data }, { on := 3, ground := Ground.data }], guard := none }) (v := (.bool true)) rfl (by kernel_rfl) (by kernel_rfl) (by kernel_rfl) (fun _ _ _ h => h) (Or.inl ⟨by rfl, ?_⟩) hHeld ?_
  · intro w hSw; (try dsimp only at hSw); go_simp
  try simp only [Act.put, List.setIfInBounds_toArray, List.set_cons_zero, List.set_cons_succ]
  refine wpAnyH_take (i := 5) (oi := { dst := some 12, op := Op.move (Operand.tmp 11), type := 4, pos := "logs.go:152", after := #[{ on := 4, ground := Ground.data }, { on := 3, ground := Ground.chain }], guard := none }) (v := (.bool true)) rfl (by kernel_rfl) (by kernel_rfl) (by kernel_rfl) (fun _ _ _ h => h) (Or.inl ⟨by rfl, ?_⟩) hHeld ?_
  · intro w hSw; (try dsimp only at hSw); go_simp
  try simp only [Act.put, List.setIfInBounds_toArray, List.set_cons_zero, List.set_cons_succ]
  refine wpAnyH_take (i := 6) (oi := { dst := some 13, op := Op.fieldAddr 24 (Operand.tmp 2) 2, type := 0, pos := "logs.go:152", after := #[{ on := 5, ground := Ground.guard }], guard := some (5, false) }) (v := undef) rfl (by kernel_rfl) (by kernel_rfl) (by kernel_rfl) (fun _ _ _ h => h) (Or.inr ⟨by rfl, rfl⟩) hHeld ?_
  try simp only [Act.put, List.setIfInBounds_toArray, List.set_cons_zero, List.set_cons_succ]
  refine wpAnyH_take (i := 7) (oi := { dst := some 14, op := Op.load 22 (Operand.tmp 13), type := 22, pos := "logs.go:152", after := #[{ on := 6, ground := Ground.data }, { on := 5, ground := Ground.guard }], guard := some (5, false) }) (v := undef) rfl (by kernel_rfl) (by kernel_rfl) (by kernel_rfl) (fun _ _ _ h => h) (Or.inr ⟨by rfl, rfl⟩) hHeld ?_
  try simp only [Act.put, List.setIfInBounds_toArray, List.set_cons_zero, List.set_cons_succ]
  refine wpAnyH_take (i := 8) (oi := { dst := some 15, op := Op.call { callee := Callee.builtin Builtin.len, args := #[Operand.tmp 14], argTypes := #[22] }, type := 3, pos := "logs.go:152", after := #[{ on := 7, ground := Ground.data }, { on := 5, ground := Ground.guard }], guard := some (5, false) }) (v := undef) rfl (by kernel_rfl) (by kernel_rfl) (by kernel_rfl) (fun _ _ _ h => h) (Or.inr ⟨by rfl, rfl⟩) hHeld ?_
  try simp only [Act.put, List.setIfInBounds_toArray, List.set_cons_zero, List.set_cons_succ]
  refine wpAnyH_take (i := 9) (oi := { dst := some 16, op := Op.fieldAddr 24 (Operand.tmp 3) 2, type := 0, pos := "logs.go:152", after := #[{ on := 5, ground := Ground.guard }], guard := some (5, false) }) (v := undef) rfl (by kernel_rfl) (by kernel_rfl) (by kernel_rfl) (fun _ _ _ h => h) (Or.inr ⟨by rfl, rfl⟩) hHeld ?_
  try simp only [Act.put, List.setIfInBounds_toArray, List.set_cons_zero, List.set_cons_succ]
  refine wpAnyH_take (i := 10) (oi := { dst := some 17, op := Op.load 22 (Operand.tmp 16), type := 22, pos := "logs.go:152", after := #[{ on := 9, ground := Ground.data }, { on := 5, ground := Ground.guard }], guard := some (5, false) }) (v := undef) rfl (by kernel_rfl) (by kernel_rfl) (by kernel_rfl) (fun _ _ _ h => h) (Or.inr ⟨by rfl, rfl⟩) hHeld ?_
  try simp only [Act.put, List.setIfInBounds_toArray, List.set_cons_zero, List.set_cons_succ]
  refine wpAnyH_take (i := 11) (oi := { dst := some 18, op := Op.call { callee := Callee.builtin Builtin.len, args := #[Operand.tmp 17], argTypes := #[22] }, type := 3, pos := "logs.go:152", after := #[{ on := 10, ground := Ground.data }, { on := 5, ground := Ground.guard }], guard := some (5, false) }) (v := undef) rfl (by kernel_rfl) (by kernel_rfl) (by kernel_rfl) (fun _ _ _ h => h) (Or.inr ⟨by rfl, rfl⟩) hHeld ?_
  try simp only [Act.put, List.setIfInBounds_toArray, List.set_cons_zero, List.set_cons_succ]
  refine wpAnyH_take (i := 12) (oi := { dst := some 19, op := Op.binOp BinOp.neq 3 (Operand.tmp 15) (Operand.tmp 18) 3, type := 4, pos := "logs.go:152", after := #[{ on := 8, ground := Ground.data }, { on := 11, ground := Ground.data }, { on := 5, ground := Ground.guard }], guard := some (5, false) }) (v := undef) rfl (by kernel_rfl) (by kernel_rfl) (by kernel_rfl) (fun _ _ _ h => h) (Or.inr ⟨by rfl, rfl⟩) hHeld ?_
  try simp only [Act.put, List.setIfInBounds_toArray, List.set_cons_zero, List.set_cons_succ]
  refine wpAnyH_take (i := 13) (oi := { dst := some 20, op := Op.pick (Operand.tmp 12) (Operand.const (Value.bool true)) (Operand.tmp 19), type := 4, pos := "logs.go:152", after := #[{ on := 5, ground := Ground.data }, { on := 12, ground := Ground.data }], guard := none }) (v := (.bool true)) rfl (by kernel_rfl) (by kernel_rfl) (by kernel_rfl) (fun _ _ _ h => h) (Or.inl ⟨by rfl, ?_⟩) hHeld ?_
  · intro w hSw; (try dsimp only at hSw); go_simp
  try simp only [Act.put, List.setIfInBounds_toArray, List.set_cons_zero, List.set_cons_succ]
  refine wpAnyH_done (by kernel_rfl) ?_ _
  go_wp2
  go_ret
  exact ⟨rfl, (Bx2.at_ HD.out).2⟩
end
end Go.Proofs.Ytfmfphfckaiejaa

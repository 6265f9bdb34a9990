/-
  The document's own same: its contract.
-/
import Derived.Test.YtlaiacjlphjmlaaFwA
import Derived.BigQuiet
import Derived.Laws.AppendOwnNone
import Derived.Maps.AppendAt
namespace Go.Proofs.Ytlaiacjlphjmlaa
open Go.RowKit
set_option linter.unusedVariables false

/-- A slice that reads as numbers. -/
def Iv (w : World) (v : Value) (l : List Nat) : Prop := ∃ a c, v = .slice a l.length c ∧ l.length ≤ c ∧ c ≤ 9223372036854775807 ∧ ((a = none ∧ l = [] ∧ c = 0) ∨ ∃ g, a = some ⟨g, 0, none⟩ ∧ ∀ j, j < l.length → w.cell? ⟨g, j, none⟩ = some (.int .i64 (l.getD j 0 : Nat)))
theorem Iv.keep {w w' : World} {v : Value} {l : List Nat} (h : Iv w v l) (hk : ∀ k, v.ownBlock = some k → k < w.heap.size → w'.heap[k]? = w.heap[k]?) : Iv w' v l := by
  obtain ⟨a, c, rfl, h1, h2, h3⟩ := h
  refine ⟨a, c, rfl, h1, h2, ?_⟩
  rcases h3 with h3 | ⟨g, rfl, q2⟩
  · exact .inl h3
  · exact .inr ⟨g, rfl, fun j hj => (cell_kept (hk g rfl (World.block_lt_of_cell? _ _ (q2 j hj))) _).trans (q2 j hj)⟩
theorem Iv.below {w w' : World} {v : Value} {l : List Nat} (h : Iv w v l) (hb : Below w.heap.size w w') : Iv w' v l := h.keep fun k _ hk => hb.block k hk
theorem Iv.row {w : World} {g : Nat} {l : List Nat} {c : Nat} (h : RowN w g l) (h1 : l.length ≤ c) (h2 : c ≤ 9223372036854775807) : Iv w (.slice (some ⟨g, 0, none⟩) l.length c) l := ⟨_, c, rfl, h1, h2, .inr ⟨g, rfl, h.c⟩⟩
theorem Iv.nil (w : World) : Iv w (.slice none 0 0) [] := ⟨none, 0, rfl, Nat.le_refl _, by decide, .inl ⟨rfl, rfl, rfl⟩⟩
theorem same_no {l m : List Nat} {i : Nat} (hl : l.length = m.length) (hi : i < l.length) (h : l.getD i 0 ≠ m.getD i 0) : decide (l = m) = false := decide_eq_false fun e => h (by rw [e])
theorem same_yes {l m : List Nat} (hl : l.length = m.length) (h : ∀ j, j < l.length → l.getD j 0 = m.getD j 0) : decide (l = m) = true := decide_eq_true (List.ext_getElem hl fun j h1 h2 => by have := h j h1; simpa [List.getD_eq_getElem?_getD, h1, h2] using this)
set_option maxRecDepth 100000 in
set_option maxHeartbeats 800000 in
theorem same_any (v u : Value) (l m : List Nat) (w : World) (hv : Iv w v l) (hu : Iv w u m) : Calls Try.prog 23 #[v, u] w fun e w' => e = .returned (.bool (decide (l = m))) ∧ Below w.heap.size w w' := by
  have HV : Hid (∀ wr, Below w.heap.size w wr → Iv wr v l ∧ Iv wr u m) := fun wr q => ⟨hv.below q, hu.below q⟩
  obtain ⟨a, c, rfl, h1, h2, _⟩ := hv
  obtain ⟨b, e, rfl, h3, h4, _⟩ := hu
  by_cases hl : l.length = m.length
  · have HY : Hid ((∀ j, j < l.length → l.getD j 0 = m.getD j 0) → decide (l = m) = true) := fun q => same_yes hl q
    have HN : Hid (∀ i, i < l.length → l.getD i 0 ≠ m.getD i 0 → decide (l = m) = false) := fun i hi q => same_no hl hi q
    have HC : Hid (∀ wr i, Below w.heap.size w wr → i < l.length → ∃ g g2, a = some ⟨g, 0, none⟩ ∧ b = some ⟨g2, 0, none⟩ ∧ wr.cell? ⟨g, i, none⟩ = some (.int .i64 (l.getD i 0 : Nat)) ∧ wr.cell? ⟨g2, i, none⟩ = some (.int .i64 (m.getD i 0 : Nat))) := fun wr i q hi => by
      obtain ⟨⟨a2, c2, e1, _, _, q1⟩, ⟨b2, c3, e2, _, _, q2⟩⟩ := HV.out wr q
      obtain ⟨g, x1, x2⟩ := q1.resolve_left (fun e => by rw [e.2.1] at hi; cases hi)
      obtain ⟨g2, y1, y2⟩ := q2.resolve_left (fun e => by rw [hl, e.2.1] at hi; cases hi)
      injection e1 with e1
      injection e2 with e2
      exact ⟨g, g2, e1.trans x1, e2.trans y1, x2 i hi, y2 i (by omega)⟩
    rw [← hl] at h3 ⊢
    clear HV
    generalize decide (l = m) = r at *
    generalize hn : l.length = n at *
    clear hl
    go_enter Try.func23, Try.ntmps23
    go_wp2
    go_loopw [5] (fun x wr => ∃ (i : Nat), i ≤ n ∧ x = .int .i64 i ∧ Hid (Below w.heap.size w wr ∧ ∀ j, j < i → l.getD j 0 = m.getD j 0)) (fun x _ => n - (intOf x).toNat)
    case atStart => exact ⟨0, Nat.zero_le _, rfl, Below.refl _ _, fun j hj => absurd hj (Nat.not_lt_zero _)⟩
    case round =>
      obtain ⟨i, hi, rfl, HR⟩ := hrel
      by_cases hlt : i < n
      · obtain ⟨g, g2, rfl, rfl, x1, x2⟩ := HC.out wr i HR.out.1 hlt
        have l1 := World.block_lt_of_cell? _ _ x1
        have l2 := World.block_lt_of_cell? _ _ x2
        by_cases hx : l.getD i 0 = m.getD i 0
        · have HX : Hid (l.getD i 0 = m.getD i 0) := hx
          rw [hx] at x1
          clear hx HN HY HC
          obtain ⟨y, hy⟩ : ∃ y, m.getD i 0 = y := ⟨_, rfl⟩
          rw [hy] at x1 x2
          clear hy
          go_wp2
          go_quiet (fail)
          go_wp2
          go_roundw
          case rel => exact ⟨i + 1, by omega, by go_num, below_drewN HR.out.1 _, fun j hj => by by_cases hji : j = i; subst hji; exact HX.out; exact HR.out.2 j (by omega)⟩
          case measure => simp [intOf]; omega
        · have HF : Hid (r = false) := HN.out i hlt hx
          have h5 : ¬ ((l.getD i 0 : Nat) : Int) = ((m.getD i 0 : Nat) : Int) := by omega
          have h6 : (((l.getD i 0 : Nat) : Int) == ((m.getD i 0 : Nat) : Int)) = false := by rw [beq_eq_false_iff_ne]; exact h5
          have h7 : (((l.getD i 0 : Nat) : Int) != ((m.getD i 0 : Nat) : Int)) = true := by rw [bne, h6]; rfl
          clear hx HN HY HC
          generalize m.getD i 0 = y at *
          generalize l.getD i 0 = x at *
          go_wp2
          go_quiet (fail)
          go_wp2
          go_ret
          exact ⟨by rw [HF.out]; rfl, below_drewN HR.out.1 _⟩
      · have HT : Hid (r = true) := HY.out fun j hj => HR.out.2 j (by omega)
        clear HN HY HC
        go_wp2
        go_ret
        exact ⟨by rw [HT.out]; rfl, HR.out.1⟩
  · have HF : Hid (decide (l = m) = false) := decide_eq_false fun e => hl (by rw [e])
    have h5 : ¬ ((l.length : Nat) : Int) = ((m.length : Nat) : Int) := by omega
    have h6 : (((l.length : Nat) : Int) == ((m.length : Nat) : Int)) = false := by rw [beq_eq_false_iff_ne]; exact h5
    clear HV
    generalize decide (l = m) = r at *
    generalize l.length = x at *
    generalize m.length = y at *
    go_enter Try.func23, Try.ntmps23
    go_wp2
    go_ret
    exact ⟨by rw [HF.out]; rfl, Below.refl _ _⟩
theorem gw_ints {w : World} {B : Nat} {v : Value} {ts : List Nat} (h : Gw intR 3 1 w B v ts) : w.ownsRow B 3 1 v ts.length (ts.map fun x => .int .i64 (x : Nat)) := by
  obtain ⟨xs, h1, h2⟩ := h
  have e : xs = ts.map fun x => Value.int .i64 (x : Nat) := by
    refine List.ext_getElem (by rw [h1.1, List.length_map, Nat.mul_one]) fun j q1 q2 => ?_
    have hj : j < ts.length := by simpa using q2
    have hx : (xs.drop (j * 1)).take 1 = [.int .i64 (ts[j] : Nat)] := h2 j hj
    have := congrArg List.head? hx
    rw [Nat.mul_one, List.head?_take, if_neg (by decide), List.head?_drop, List.getElem?_eq_getElem q1] at this
    simpa using this
  rw [← e]; exact h1
theorem gw_of_ints {w : World} {B : Nat} {v : Value} {ts : List Nat} (h : w.ownsRow B 3 1 v ts.length (ts.map fun x => .int .i64 (x : Nat))) : Gw intR 3 1 w B v ts := by
  refine ⟨_, h, fun j hj => ?_⟩
  show ((List.map _ ts).drop (j * 1)).take 1 = _
  rw [Nat.mul_one, List.drop_eq_getElem_cons (by simpa using hj)]
  simp
theorem gw_iv {w : World} {B : Nat} {v : Value} {ts : List Nat} (h : Gw intR 3 1 w B v ts) : Iv w v ts := by
  have ho := gw_ints h
  rcases ho.2 with ⟨rfl, h0⟩ | ⟨g, cap, cur, rfl, hb, hg, q1, q2, q3, q4⟩
  · obtain rfl : ts = [] := List.length_eq_zero_iff.mp h0
    exact Iv.nil w
  · refine ⟨_, cap, rfl, q1, q2, .inr ⟨g, rfl, fun j hj => ?_⟩⟩
    rw [World.ownsRow.cellAt ho j (by omega), List.getElem?_map, List.getElem?_eq_getElem hj]
    simp [List.getD_eq_getElem?_getD, hj]
/-- append, of all of another slice. -/
theorem spread_int {ops : Array Oper} {rest : List Oper} {o : Oper} {a : Act} {Q : Exit → Act → World → Prop} {wX : World} (hgd : o.guard = none) (s x : Operand)
    (ho : o.op = .call { callee := .builtin .append, args := #[s, x], argTypes := #[27, 27] }) {B : Nat} {v vx : Value} {ts l : List Nat}
    (hl : Gw intR 3 1 wX B v ts) (hv : Iv wX vx l) (hbase : B ≤ wX.heap.size) (hs : a.eval s = v) (hx : a.eval x = vx) (hlen : ts.length + l.length ≤ 1048576)
    (h : ∀ v' w', Gw intR 3 1 w' B v' (ts ++ l) → Below B wX w' → (v'.ownBlock = v.ownBlock ∨ v'.ownBlock = some wX.heap.size) → wpList Try.prog ops Q rest (a.put o.dst v') w') : wpList Try.prog ops Q (o :: rest) a wX := by
  obtain ⟨i, hi, hz, hsize, hby⟩ := info_parts infoI
  have h1 := gw_ints hl
  obtain ⟨av, c, rfl, hc1, hc2, hav⟩ := hv
  rcases hav with ⟨rfl, rfl, rfl⟩ | ⟨g, rfl, hcell⟩
  · refine wpList_append_own_none hgd s x 27 ho B 3 i 1 Try.underlying27 hi v ts.length _ hs h1 hx ?_
    refine h v wX ?_ (Below.refl _ _) (.inl rfl)
    rw [List.append_nil]; exact hl
  · obtain ⟨v', w', hr, q2, q3, q4, q5⟩ := run_append_own_at (P := Try.prog) wX B 27 o.type 3 i _ 1 8 Try.underlying27 hi hz hsize hby rfl (by decide) v ts.length _ h1 ⟨g, 0, none⟩ l.length c (l.map fun x => .int .i64 (x : Nat)) (by rw [List.length_map, Nat.mul_one])
      (fun j u hj => by
        rw [V.add_plain, Nat.zero_add]
        rw [List.getElem?_map] at hj
        cases hq : l[j]? with
        | none => rw [hq] at hj; cases hj
        | some y =>
          rw [hq] at hj
          obtain ⟨hjl, _⟩ := List.getElem?_eq_some_iff.mp hq
          rw [hcell j hjl, List.getD_eq_getElem?_getD, hq]
          exact hj) (by intro u hu; obtain ⟨y, _, rfl⟩ := List.mem_map.mp hu; rfl) (by unfold maxLen; omega) (by omega) hbase
    refine wpList_plain hgd fun K hK => ?_
    unfold Oper.wp execOp
    simp only [ho, resolve, invoke, builtin, Sem.run_bind, Sem.run_pure, Result.andThen_ok, List.map_toArray, List.map_cons, List.map_nil, hs, hx, hr]
    refine hK _ _ (h v' w' (gw_of_ints ?_) ((Below.refl _ _).grown q3 hbase hl.own) q5)
    rw [List.length_append, List.map_append]
    exact q2
end Go.Proofs.Ytlaiacjlphjmlaa

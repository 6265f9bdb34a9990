/-
  Layer 14: the walk of QuorumGrows.
-/
import Derived.Test.YthjbnhdikoljdaaWrk
namespace Go.Proofs.Ythjbnhdikoljdaa
open Go.RowKit
set_option linter.unusedVariables false

theorem info3 : (Try.prog.info? 3).map (fun i => (i.zero, i.size, i.bytes)) = some (some (.int .i64 0), 1, 8) := by kernel_rfl
theorem info4 : (Try.prog.info? 4).map (fun i => (i.zero, i.size, i.bytes)) = some (some (.bool false), 1, 1) := by kernel_rfl
/-- A copy of a row: append to nothing. -/
theorem app_any {t e : TypeId} {z : Value} {by_ : Nat} (ht : Try.prog.underlying t = some (.slice e)) (hinfo : (Try.prog.info? e).map (fun i => (i.zero, i.size, i.bytes)) = some (some z, 1, by_)) (hz1 : z.cells.size = 1) (hby1 : by_ ≤ 8)
    {ops : Array Oper} {rest : List Oper} {o : Oper} {ac : Act} {Q : Exit → Act → World → Prop} {wX : World} (hgd : o.guard = none) (s x : Operand)
    (ho : o.op = .call { callee := .builtin .append, args := #[s, x], argTypes := #[t, t] }) {a : Option Addr} {n cap : Nat} {vs : List Value} (hl : RdL wX a cap vs) (hn : vs.length = n) (h0 : 0 < n) (h3 : n ≤ 300) (hone : ∀ u ∈ vs, u.oneCell' = true)
    (hs : ac.eval s = .slice none 0 0) (hx : ac.eval x = .slice a n cap)
    (h : ∀ g cap2 w', w'.ownsRow wX.heap.size e 1 (.slice (some ⟨g, 0, none⟩) n cap2) n vs → Below wX.heap.size wX w' → wpList Try.prog ops Q rest (ac.put o.dst (.slice (some ⟨g, 0, none⟩) n cap2)) w') : wpList Try.prog ops Q (o :: rest) ac wX := by
  obtain ⟨i, hi, hz, hsize, hby⟩ := info_parts hinfo
  rcases hl.cells with q | ⟨b, f, rfl, hc⟩
  · omega
  · have hm : n * by_ ≤ 300 * 8 := Nat.mul_le_mul h3 hby1
    refine wpList_append_own wX hgd s x t ho wX.heap.size e i z 1 by_ ht hi hz hsize hby hz1 (by decide) _ 0 [] hs (World.ownsRow_nil _ _ _ _) ⟨b, f, none⟩ n cap vs hx (by omega) (fun j u hj => ?_) hone (by unfold maxLen; omega) (by rw [Nat.zero_add]; omega) (Nat.le_refl _) ?_
    · have hjl : j < vs.length := (List.getElem?_eq_some_iff.1 hj).1
      rw [show (⟨b, f, none⟩ : Addr).add j = ⟨b, f + j, none⟩ by unfold Addr.add; split <;> simp_all]
      rw [hc j hjl, hj]
    · intro v' w' q1 q2 q3
      rw [Nat.zero_add, List.nil_append] at q1
      rcases q1.2 with ⟨rfl, _⟩ | ⟨g, c2, cur, rfl, _⟩
      · obtain ⟨_, e⟩ := q3.1 rfl
        omega
      · exact h g c2 w' q1 ((Below.refl _ _).grown q2 (Nat.le_refl _) fun k hk => by cases hk)
theorem own_free {w : World} {base g n cap : Nat} {e : TypeId} {vs : List Value} (h : w.ownsRow base e 1 (.slice (some ⟨g, 0, none⟩) n cap) n vs) (i : Nat) : w.frozen? ⟨g, i, none⟩ = false := by
  rcases h.2 with ⟨q, _⟩ | ⟨g', c2, cur, q, _, hb, _⟩
  · cases q
  · simp only [Value.slice.injEq, Option.some.injEq, Addr.mk.injEq, and_true] at q
    obtain ⟨rfl, _⟩ := q
    simp [World.frozen?, hb]
theorem own_base {w : World} {base g n cap : Nat} {e : TypeId} {vs : List Value} (h : w.ownsRow base e 1 (.slice (some ⟨g, 0, none⟩) n cap) n vs) : base ≤ g := by
  rcases h.2 with ⟨q, _⟩ | ⟨g', c2, cur, q, hb, _⟩
  · cases q
  · simp only [Value.slice.injEq, Option.some.injEq, Addr.mk.injEq, and_true] at q
    obtain ⟨rfl, _⟩ := q
    exact hb
/-- A store into a row. -/
theorem RdL.set {w : World} {g cap : Nat} {vs : List Value} (h : RdL w (some ⟨g, 0, none⟩) cap vs) (K : Nat) (v : Value) : RdL (w.setCell ⟨g, K, none⟩ v) (some ⟨g, 0, none⟩) cap (vs.set K v) := by
  refine ⟨by rw [List.length_set]; exact h.cap1, h.cap2, h.nil, ?_⟩
  rcases h.cells with q | ⟨b, o, e, hc⟩
  · left; rw [List.length_set]; exact q
  · simp only [Option.some.injEq, Addr.mk.injEq, and_true] at e
    obtain ⟨rfl, rfl⟩ := e
    refine .inr ⟨g, 0, rfl, fun i hi => ?_⟩
    rw [List.length_set] at hi
    have h1 := hc i hi
    rw [Nat.zero_add] at h1 ⊢
    by_cases e : K = i
    · subst e
      rw [List.getElem?_set_self hi]
      exact World.cell?_setCell_same' _ _ _ (by rw [h1, List.getElem?_eq_getElem hi]; rfl)
    · rw [List.getElem?_set_ne e]
      have hne : (⟨g, K, none⟩ : Addr) ≠ ⟨g, i, none⟩ := by intro q; injection q with _ q _; exact e q
      exact (World.cell?_setCell_other w _ _ v hne).trans h1
theorem mod_small {z : Int} {t : Nat} (h0 : 0 < t) (h1 : t ≤ 1000) : ∃ k : Nat, wrap64 ((IntKind.u64.wrap z).tmod (t : Int)) = (k : Int) ∧ k < t := by
  have hw : 0 ≤ IntKind.u64.wrap z := by rw [IntKind.wrap_u64]; omega
  have e : (IntKind.u64.wrap z).tmod (t : Int) = (IntKind.u64.wrap z) % (t : Int) := Int.tmod_eq_emod_of_nonneg hw
  have h2 : 0 ≤ (IntKind.u64.wrap z) % (t : Int) := Int.emod_nonneg _ (by omega)
  have h3 : (IntKind.u64.wrap z) % (t : Int) < (t : Int) := Int.emod_lt_of_pos _ (by omega)
  refine ⟨((IntKind.u64.wrap z) % (t : Int)).toNat, ?_, by omega⟩
  rw [e]
  unfold wrap64
  omega
theorem set_getD {t : List Int} {K i : Nat} {v : Int} (hi : i < t.length) : (t.set K v).getD i 0 = v ∨ (t.set K v).getD i 0 = t.getD i 0 := by
  by_cases e : K = i
  · subst e
    left
    rw [List.getD_eq_getElem?_getD, List.getElem?_set_self hi]
    rfl
  · right
    rw [List.getD_eq_getElem?_getD, List.getElem?_set_ne e, List.getD_eq_getElem?_getD]
/-- Up to where a majority has come, of a copy of which one came further. -/
theorem Reached_set {t : List Int} {n K base g cap : Nat} {v : Int} {w : World} (hn : t.length = n) (h3 : n ≤ 300) (hr : ∀ i, i < t.length → InR (t.getD i 0)) (hv : InR v) (h : w.ownsRow base 3 1 (.slice (some ⟨g, 0, none⟩) n cap) n (t.map (.int .i64))) : Calls Try.prog 13 #[.slice (some ⟨g, 0, none⟩) n cap] (w.setCell ⟨g, K, none⟩ (.int .i64 v)) fun e w' => ∃ x, e = .returned (.int .i64 x) ∧ Hid (Rch (t.set K v) x) ∧ InR x ∧ Below (w.setCell ⟨g, K, none⟩ (.int .i64 v)).heap.size (w.setCell ⟨g, K, none⟩ (.int .i64 v)) w' := by
  have hl : (t.set K v).length = n := by rw [List.length_set]; exact hn
  have q := RdL.set (RdL.own h (by rw [List.length_map]; exact hn)) K (.int .i64 v)
  have e : (t.map (Value.int .i64)).set K (.int .i64 v) = (t.set K v).map (Value.int .i64) := by rw [List.map_set]
  rw [e] at q
  have := Reached_any (t.set K v) _ cap _ ⟨q, fun i hi => by
    rcases set_getD (t := t) (K := K) (i := i) (v := v) (by omega) with r | r
    · rw [r]; exact hv
    · rw [r]; exact hr i (by omega)⟩ (by omega)
  rw [hl] at this
  exact this
theorem Won_set {l : List Bool} {n K base g cap : Nat} {w : World} (hn : l.length = n) (h : w.ownsRow base 4 1 (.slice (some ⟨g, 0, none⟩) n cap) n (l.map .bool)) : Calls Try.prog 11 #[.slice (some ⟨g, 0, none⟩) n cap] (w.setCell ⟨g, K, none⟩ (.bool true)) fun e w' => e = .returned (.bool (wonM (l.set K true))) ∧ w' = w.setCell ⟨g, K, none⟩ (.bool true) := by
  have hl : (l.set K true).length = n := by rw [List.length_set]; exact hn
  have q := RdL.set (RdL.own h (by rw [List.length_map]; exact hn)) K (.bool true)
  have e : (l.map Value.bool).set K (.bool true) = (l.set K true).map Value.bool := by rw [List.map_set]
  rw [e] at q
  have := Won_any (l.set K true) _ cap _ q
  rw [hl] at this
  exact this
set_option maxRecDepth 100000 in
set_option maxHeartbeats 800000 in
theorem grows_walk (t : List Int) (a : Option Addr) (c : Nat) (l : List Bool) (a2 : Option Addr) (c2 : Nat) (who up : Int) (w : World) (ht : IlV w a c t) (hl : BlV w a2 c2 l) (hw : InR who) (hu : 0 ≤ up ∧ up ≤ 65535) : Calls Try.prog 6 #[.slice a t.length c, .slice a2 l.length c2, .int .i64 who, .int .u16 up] w fun e w' => e = .returned (.bool true) ∧ Below w.heap.size w w' := by
  have h1 := ht.cap1
  have h2 := ht.cap2
  have h3 := hl.cap1
  have h4 := hl.cap2
  obtain ⟨w1, w2⟩ := hw
  obtain ⟨u1, u2⟩ := hu
  by_cases k0 : t.length = 0
  · clear ht hl
    generalize t.length = n at *
    generalize l.length = n2 at *
    subst k0
    go_enter Try.func6, Try.ntmps6
    go_wp2_with (go_at_call 8; refine (works_any _).mono ?_; rintro e w2 ⟨rfl, HB⟩)
    go_ret
    exact ⟨rfl, HB⟩
  · have k2 : (((t.length : Nat) : Int) == 0) = false := by rw [beq_eq_false_iff_ne]; omega
    by_cases k1 : 300 < t.length
    · clear ht hl
      generalize t.length = n at *
      generalize l.length = n2 at *
      go_enter Try.func6, Try.ntmps6
      go_wp2_with (go_at_call 8; refine (works_any _).mono ?_; rintro e w2 ⟨rfl, HB⟩)
      go_ret
      exact ⟨rfl, HB⟩
    · by_cases k3 : 300 < l.length
      · clear ht hl
        generalize t.length = n at *
        generalize l.length = n2 at *
        go_enter Try.func6, Try.ntmps6
        go_wp2_with (go_at_call 8; refine (works_any _).mono ?_; rintro e w2 ⟨rfl, HB⟩)
        go_ret
        exact ⟨rfl, HB⟩
      · have ht2 := ht
        have hl2 := hl
        generalize hn : t.length = n at *
        generalize hn2 : l.length = n2 at *
        obtain ⟨K, hK, hKn⟩ := mod_small (z := who) (t := n) (by omega) (by omega)
        obtain ⟨b, o, rfl, x1, x2⟩ := ht.at_ (i := K) (by omega)
        have hv := ht.inr K (by omega)
        obtain ⟨v1, v2⟩ := id hv
        by_cases k4 : 1152921504606846976 < t.getD K 0
        · clear ht hl ht2 hl2 hv hn hn2
          generalize t.getD K 0 = v at *
          go_enter Try.func6, Try.ntmps6
          go_wp2_with (go_at_call 8; refine (works_any _).mono ?_; rintro e w2 ⟨rfl, HB⟩)
          go_ret
          exact ⟨rfl, HB⟩
        · have HG : Hid (∀ x y, Rch t x → Rch (t.set K (t.getD K 0 + up)) y → x ≤ y) := fun x y q1 q2 => Rch.grow (by omega) q1 q2 (by omega)
          have HR1 : Hid (∀ (base g cap : Nat) (w1 : World), w1.ownsRow base 3 1 (.slice (some ⟨g, 0, none⟩) n cap) n (t.map (.int .i64)) → Calls Try.prog 13 #[.slice (some ⟨g, 0, none⟩) n cap] (w1.setCell ⟨g, K, none⟩ (.int .i64 (t.getD K 0 + up))) fun e w' => ∃ x, e = .returned (.int .i64 x) ∧ Hid (Rch (t.set K (t.getD K 0 + up)) x) ∧ InR x ∧ Below (w1.setCell ⟨g, K, none⟩ (.int .i64 (t.getD K 0 + up))).heap.size (w1.setCell ⟨g, K, none⟩ (.int .i64 (t.getD K 0 + up))) w') := fun base g cap w1 q => Reached_set hn (by omega) (fun i hi => ht.inr i hi) ⟨by omega, by omega⟩ q
          have HR2 : Hid (∀ wx, Below w.heap.size w wx → Calls Try.prog 13 #[.slice (some ⟨b, o, none⟩) n c] wx fun e w' => ∃ x, e = .returned (.int .i64 x) ∧ Hid (Rch t x) ∧ InR x ∧ Below wx.heap.size wx w') := fun wx hb => by
            have := Reached_any t _ c wx (ht.below hb) (by omega)
            rw [hn] at this
            exact this
          have HRd : Hid (RdL w (some ⟨b, o, none⟩) c (t.map (.int .i64))) := ht.rd
          have HLn : Hid ((t.map (Value.int .i64)).length = n) := by rw [List.length_map]; exact hn
          have HOn : Hid (∀ u ∈ t.map (Value.int .i64), u.oneCell' = true) := fun u hu => by obtain ⟨x, _, rfl⟩ := List.mem_map.1 hu; rfl
          have HCl : Hid (∀ (base g cap : Nat) (w1 : World), w1.ownsRow base 3 1 (.slice (some ⟨g, 0, none⟩) n cap) n (t.map (.int .i64)) → w1.cell? ⟨g, K, none⟩ = some (.int .i64 (t.getD K 0))) := fun base g cap w1 q => by
            have := q.cellAt K (by omega)
            rw [this, List.getElem?_map, List.getD_eq_getElem?_getD, List.getElem?_eq_getElem (by omega)]
            rfl
          have up2 : 0 ≤ up := u1
          by_cases k5 : n2 = 0
          · subst k5
            clear ht hl ht2 hl2 hv hn hn2
            generalize t.getD K 0 = v at *
            go_enter Try.func6, Try.ntmps6
            go_wp2_with (first
              | (go_at_call 8; refine (works_any _).mono ?_; rintro e w5 ⟨rfl, HB⟩)
              | (go_at_call 13; have := HY1; refine (HR2.out _ HB2.out).mono ?_; rintro e w3 ⟨y2, rfl, HY2, _, HB⟩; have HB3 : Hid (Below w.heap.size w w3) := trail HB2.out HB; clear HB; have hle := HG.out _ _ HY2.out HY1.out)
              | (go_at_call 13; refine (HR1.out _ _ _ _ HOw.out).mono ?_; rintro e w2 ⟨y1, rfl, HY1, _, HB⟩; have HB2 : Hid (Below w.heap.size w w2) := trail (HB1.out.setCell (own_base HOw.out) _) HB; clear HB)
              | (at_builtin; refine app_any Try.underlying23 info3 rfl (by decide) rfl _ _ rfl HRd.out HLn.out (by omega) (by omega) HOn.out rfl rfl ?_; intro g cp w1 hown hb; have HOw : Hid (w1.ownsRow w.heap.size 3 1 (.slice (some ⟨g, 0, none⟩) n cp) n (t.map (.int .i64))) := hown; have HB1 : Hid (Below w.heap.size w w1) := hb; have y3 := HCl.out _ _ _ _ hown; have y4 := own_free hown K; clear hown hb))
            go_ret
            exact ⟨rfl, trail HB3.out HB⟩
          · obtain ⟨K2, hK2, hKn2⟩ := mod_small (z := who) (t := n2) (by omega) (by omega)
            have k6 : (((n2 : Nat) : Int) == 0) = false := by rw [beq_eq_false_iff_ne]; omega
            have HX : Hid (wonM l = true → wonM (l.set K2 true) = true) := fun q => won_set q
            have HW1 : Hid (∀ wx, Below w.heap.size w wx → Calls Try.prog 11 #[.slice a2 n2 c2] wx fun e w' => e = .returned (.bool (wonM l)) ∧ w' = wx) := fun wx hb => by
              have := Won_any l _ c2 wx (hl.below hb)
              rw [hn2] at this
              exact this
            have HW2 : Hid (∀ (base g cap : Nat) (w1 : World), w1.ownsRow base 4 1 (.slice (some ⟨g, 0, none⟩) n2 cap) n2 (l.map .bool) → Calls Try.prog 11 #[.slice (some ⟨g, 0, none⟩) n2 cap] (w1.setCell ⟨g, K2, none⟩ (.bool true)) fun e w' => e = .returned (.bool (wonM (l.set K2 true))) ∧ w' = w1.setCell ⟨g, K2, none⟩ (.bool true)) := fun base g cap w1 q => Won_set hn2 q
            have HRb : Hid (∀ wx, Below w.heap.size w wx → RdL wx a2 c2 (l.map .bool)) := fun wx hb => hl.below hb
            have HLb : Hid ((l.map Value.bool).length = n2) := by rw [List.length_map]; exact hn2
            have HOb : Hid (∀ u ∈ l.map Value.bool, u.oneCell' = true) := fun u hu => by obtain ⟨x, _, rfl⟩ := List.mem_map.1 hu; rfl
            have HCb : Hid (∀ (base g cap : Nat) (w1 : World), w1.ownsRow base 4 1 (.slice (some ⟨g, 0, none⟩) n2 cap) n2 (l.map .bool) → w1.cell? ⟨g, K2, none⟩ = some (.bool (l.getD K2 false))) := fun base g cap w1 q => by
              have := q.cellAt K2 (by omega)
              rw [this, List.getElem?_map, List.getD_eq_getElem?_getD, List.getElem?_eq_getElem (by omega)]
              rfl
            clear ht hl ht2 hl2 hv hn hn2
            generalize t.getD K 0 = v at *
            generalize wonM l = x at *
            generalize wonM (l.set K2 true) = y at *
            cases x with
            | false =>
              go_enter Try.func6, Try.ntmps6
              go_wp2_with (first
              | (go_at_call 8; refine (works_any _).mono ?_; rintro e w5 ⟨rfl, HB⟩)
              | (go_at_call 11; refine (HW1.out _ HB5.out).mono ?_; rintro e wz ⟨rfl, h9⟩; have h10 := h9.symm; clear h9; subst h10; have HD : Hid True := trivial)
              | (go_at_call 13; have := HY1; refine (HR2.out _ HB2.out).mono ?_; rintro e w3 ⟨y2, rfl, HY2, _, HB⟩; have HB3 : Hid (Below w.heap.size w w3) := trail HB2.out HB; clear HB; have hle := HG.out _ _ HY2.out HY1.out)
              | (go_at_call 13; refine (HR1.out _ _ _ _ HOw.out).mono ?_; rintro e w2 ⟨y1, rfl, HY1, _, HB⟩; have HB2 : Hid (Below w.heap.size w w2) := trail (HB1.out.setCell (own_base HOw.out) _) HB; clear HB)
              | (at_builtin; have := HB3; refine app_any Try.underlying22 info4 rfl (by decide) rfl _ _ rfl (HRb.out _ HB3.out) HLb.out (by omega) (by omega) HOb.out rfl rfl ?_; intro g2 cp2 w4 hown hb; have HOw2 : Hid (w4.ownsRow w3.heap.size 4 1 (.slice (some ⟨g2, 0, none⟩) n2 cp2) n2 (l.map .bool)) := hown; have HB4 : Hid (Below w3.heap.size w3 w4) := hb; have y5 := HCb.out _ _ _ _ hown; have y6 := own_free hown K2; clear hown hb; have HB5 : Hid (Below w.heap.size w (w4.setCell ⟨g2, K2, none⟩ (.bool true))) := trail HB3.out (HB4.out.setCell (own_base HOw2.out) _))
              | (at_builtin; refine app_any Try.underlying23 info3 rfl (by decide) rfl _ _ rfl HRd.out HLn.out (by omega) (by omega) HOn.out rfl rfl ?_; intro g cp w1 hown hb; have HOw : Hid (w1.ownsRow w.heap.size 3 1 (.slice (some ⟨g, 0, none⟩) n cp) n (t.map (.int .i64))) := hown; have HB1 : Hid (Below w.heap.size w w1) := hb; have y3 := HCl.out _ _ _ _ hown; have y4 := own_free hown K; clear hown hb))
              go_ret
              exact ⟨rfl, trail HB5.out HB⟩
            | true =>
              obtain rfl : y = true := HX.out rfl
              go_enter Try.func6, Try.ntmps6
              go_wp2_with (first
              | (go_at_call 8; refine (works_any _).mono ?_; rintro e w5 ⟨rfl, HB⟩)
              | (go_at_call 11; have := HD; refine (HW2.out _ _ _ _ HOw2.out).mono ?_; rintro e wz ⟨rfl, h9⟩; have h10 := h9.symm; clear h9; subst h10)
              | (go_at_call 11; refine (HW1.out _ HB5.out).mono ?_; rintro e wz ⟨rfl, h9⟩; have h10 := h9.symm; clear h9; subst h10; have HD : Hid True := trivial)
              | (go_at_call 13; have := HY1; refine (HR2.out _ HB2.out).mono ?_; rintro e w3 ⟨y2, rfl, HY2, _, HB⟩; have HB3 : Hid (Below w.heap.size w w3) := trail HB2.out HB; clear HB; have hle := HG.out _ _ HY2.out HY1.out)
              | (go_at_call 13; refine (HR1.out _ _ _ _ HOw.out).mono ?_; rintro e w2 ⟨y1, rfl, HY1, _, HB⟩; have HB2 : Hid (Below w.heap.size w w2) := trail (HB1.out.setCell (own_base HOw.out) _) HB; clear HB)
              | (at_builtin; have := HB3; refine app_any Try.underlying22 info4 rfl (by decide) rfl _ _ rfl (HRb.out _ HB3.out) HLb.out (by omega) (by omega) HOb.out rfl rfl ?_; intro g2 cp2 w4 hown hb; have HOw2 : Hid (w4.ownsRow w3.heap.size 4 1 (.slice (some ⟨g2, 0, none⟩) n2 cp2) n2 (l.map .bool)) := hown; have HB4 : Hid (Below w3.heap.size w3 w4) := hb; have y5 := HCb.out _ _ _ _ hown; have y6 := own_free hown K2; clear hown hb; have HB5 : Hid (Below w.heap.size w (w4.setCell ⟨g2, K2, none⟩ (.bool true))) := trail HB3.out (HB4.out.setCell (own_base HOw2.out) _))
              | (at_builtin; refine app_any Try.underlying23 info3 rfl (by decide) rfl _ _ rfl HRd.out HLn.out (by omega) (by omega) HOn.out rfl rfl ?_; intro g cp w1 hown hb; have HOw : Hid (w1.ownsRow w.heap.size 3 1 (.slice (some ⟨g, 0, none⟩) n cp) n (t.map (.int .i64))) := hown; have HB1 : Hid (Below w.heap.size w w1) := hb; have y3 := HCl.out _ _ _ _ hown; have y4 := own_free hown K; clear hown hb))
              go_ret
              exact ⟨rfl, trail HB5.out HB⟩
end Go.Proofs.Ythjbnhdikoljdaa

/-
  The program's copied, at numbers and at truths: contracts.
-/
import Derived.Test.YtfmfphfckaiejaaJah
import Derived.Test.YtfmfphfckaiejaaJav
namespace Go.Proofs.Ytfmfphfckaiejaa
section
open Go.RowKit
set_option linter.unusedVariables false
set_option linter.unusedSimpArgs false


/-- A number, a truth: elements of one cell. -/
def ilR : Rdr Int where
  k := 1
  z := 0
  R w P us x := us = [.int .i64 x] ∧ InR x
  kpos := by decide
  kept := fun ⟨h1, h2⟩ _ => ⟨h1, h2⟩
  len := fun ⟨h1, _⟩ => by rw [h1]; rfl
  one := fun ⟨h1, _⟩ => by
    rw [h1]
    intro u hu
    rw [List.mem_singleton.1 hu]
    rfl
def blR : Rdr Bool where
  k := 1
  z := false
  R w P us x := us = [.bool x]
  kpos := by decide
  kept := fun h1 _ => h1
  len := fun h1 => by rw [h1]; rfl
  one := fun h1 => by
    rw [h1]
    intro u hu
    rw [List.mem_singleton.1 hu]
    rfl
theorem infoI : (Try.prog.info? 3).map (fun i => (i.zero, i.size, i.bytes)) = some (some (.int .i64 0), 1, 8) := by kernel_rfl
theorem infoB : (Try.prog.info? 4).map (fun i => (i.zero, i.size, i.bytes)) = some (some (.bool false), 1, 1) := by kernel_rfl
theorem tyIl : TyOk ilR 29 3 8 := ⟨Try.underlying29, by
  obtain ⟨i, h1, h2, h3, h4⟩ := info_parts infoI
  exact ⟨i, _, h1, h2, h3, h4, rfl⟩⟩
theorem tyBl : TyOk blR 28 4 1 := ⟨Try.underlying28, by
  obtain ⟨i, h1, h2, h3, h4⟩ := info_parts infoB
  exact ⟨i, _, h1, h2, h3, h4, rfl⟩⟩
section
variable {w : World} {P : Nat → Prop} {a : Option Addr} {c : Nat}
theorem IlV.rw {l : List Int} (h : IlV w a c l) : RwV ilR w (fun _ => True) a c l := by
  refine ⟨h.cap1, h.cap2, h.rd.nil, fun i hi => ?_⟩
  obtain ⟨b, o, e, q, _⟩ := h.at_ hi
  refine ⟨b, o, [.int .i64 (l.getD i 0)], ⟨e, trivial⟩, fun j hj => ?_, rfl, h.inr i hi⟩
  have hj : j < 1 := hj
  obtain rfl : j = 0 := by omega
  show w.cell? ⟨b, o + i * 1 + 0, none⟩ = _
  rw [Nat.mul_one, Nat.add_zero, q]
  rfl
theorem BlV.rw {l : List Bool} (h : BlV w a c l) : RwV blR w (fun _ => True) a c l := by
  refine ⟨h.cap1, h.cap2, RdL.nil h, fun i hi => ?_⟩
  obtain ⟨b, o, e, q, _⟩ := h.at_ hi
  refine ⟨b, o, [.bool (l.getD i false)], ⟨e, trivial⟩, fun j hj => ?_, rfl⟩
  have hj : j < 1 := hj
  obtain rfl : j = 0 := by omega
  show w.cell? ⟨b, o + i * 1 + 0, none⟩ = _
  rw [Nat.mul_one, Nat.add_zero, q]
  rfl
theorem RwV.il {l : List Int} (h : RwV ilR w P a c l) : IlV w a c l := by
  refine ⟨⟨by rw [List.length_map]; exact h.1, h.2.1, h.2.2.1, ?_⟩, fun i hi => ?_⟩
  · by_cases h0 : l.length = 0
    · exact .inl (by rw [List.length_map]; exact h0)
    · obtain ⟨b, o, us, ⟨e, _⟩, _, _, _⟩ := h.2.2.2 0 (by omega)
      refine .inr ⟨b, o, e, fun i hi => ?_⟩
      rw [List.length_map] at hi
      obtain ⟨b2, o2, us2, ⟨e2, _⟩, q2, q3, _⟩ := h.2.2.2 i hi
      rw [e] at e2
      cases e2
      have z : w.cell? ⟨b, o + i * 1 + 0, none⟩ = us2[0]? := q2 0 (by decide)
      rw [Nat.mul_one, Nat.add_zero, q3] at z
      rw [z, List.getElem?_map, List.getElem?_eq_getElem hi]
      show some (Value.int .i64 (l.getD i 0)) = _
      rw [List.getD_eq_getElem?_getD, List.getElem?_eq_getElem hi]
      rfl
  · obtain ⟨_, _, _, _, _, _, q⟩ := h.2.2.2 i hi
    exact q
theorem RwV.bl {l : List Bool} (h : RwV blR w P a c l) : BlV w a c l := by
  refine ⟨by rw [List.length_map]; exact h.1, h.2.1, h.2.2.1, ?_⟩
  by_cases h0 : l.length = 0
  · exact .inl (by rw [List.length_map]; exact h0)
  · obtain ⟨b, o, us, ⟨e, _⟩, _, _⟩ := h.2.2.2 0 (by omega)
    refine .inr ⟨b, o, e, fun i hi => ?_⟩
    rw [List.length_map] at hi
    obtain ⟨b2, o2, us2, ⟨e2, _⟩, q2, q3⟩ := h.2.2.2 i hi
    rw [e] at e2
    cases e2
    have q3 : us2 = [.bool (l.getD i false)] := q3
    have z : w.cell? ⟨b, o + i * 1 + 0, none⟩ = us2[0]? := q2 0 (by decide)
    rw [Nat.mul_one, Nat.add_zero, q3] at z
    rw [z, List.getElem?_map, List.getElem?_eq_getElem hi]
    show some (Value.bool (l.getD i false)) = _
    rw [List.getD_eq_getElem?_getD, List.getElem?_eq_getElem hi]
    rfl
theorem Gr.pv {α : Type} {r : Rdr α} {t : TypeId} {B n : Nat} {S : Nat → Prop} {ts : List α} (h : Gr r t w B S (.slice a n c) ts) : PV (fun g => B ≤ g) a ts.length := fun _ x hx => (h.own x.block (by rw [hx]; rfl)).1
end
/-- What copied leaves. -/
def CpIP (l : List Int) (w : World) (e : Ending) (w' : World) : Prop := ∃ a c, e = .returned (.slice a l.length c) ∧ IlV w' a c l ∧ PV (fun g => w.heap.size ≤ g) a l.length ∧ Below w.heap.size w w'
set_option maxRecDepth 100000 in
set_option maxHeartbeats 400000 in
theorem CpI_any {l : List Int} {a : Option Addr} {c : Nat} {w : World} (h : IlV w a c l) (hl : l.length ≤ 1000) : Calls Try.prog 52 #[.slice a l.length c] w (CpIP l w) := by
  have HR : Hid (RwV ilR w (fun _ => True) a c l) := h.rw
  have HG : Hid (∀ v' w', Gr ilR 3 w' w.heap.size (fun _ => True) v' ([] ++ l) → w.grownBy w' none → ∃ a' c', v' = .slice a' l.length c' ∧ CpIP l w (.returned (.slice a' l.length c')) w') := fun v' w' q1 q2 => by
    rw [List.nil_append] at q1
    obtain ⟨a', c', rfl⟩ := q1.form
    exact ⟨a', c', rfl, a', c', rfl, q1.reads.2.il, q1.pv, (Below.refl _ _).grown q2 (Nat.le_refl _) fun k hk => by cases hk⟩
  have HLn : Hid (([] : List Int).length + l.length ≤ 1048576) := by show _ ≤ _; simp; omega
  clear h
  generalize CpIP l w = Post at *
  generalize hn : l.length = n at HG ⊢
  have hn2 := hn.symm
  have HN : Hid (n = l.length) := hn2
  clear hn hn2
  go_enter Try.func52, Try.ntmps52
  go_wp2_with (at_builtin; (refine list_appR tyIl (by decide) rfl _ _ rfl (Gr.nil ilR 3 w w.heap.size (fun _ => True)) HR.out HN.out (fun g _ _ => ⟨trivial, fun e => by cases e⟩) (Nat.le_refl _) rfl rfl HLn.out ?_; intro v' w' q1 q2 q3; obtain ⟨a', c', e1, q4⟩ := HG.out v' w' q1 q2; subst e1; have HF : Hid (Post (.returned (.slice a' n c')) w') := q4; clear q1 q2 q3 q4))
  exact HF.out
/-- What copied leaves. -/
def CpLP (l : List Bool) (w : World) (e : Ending) (w' : World) : Prop := ∃ a c, e = .returned (.slice a l.length c) ∧ BlV w' a c l ∧ PV (fun g => w.heap.size ≤ g) a l.length ∧ Below w.heap.size w w'
set_option maxRecDepth 100000 in
set_option maxHeartbeats 400000 in
theorem CpL_any {l : List Bool} {a : Option Addr} {c : Nat} {w : World} (h : BlV w a c l) (hl : l.length ≤ 1000) : Calls Try.prog 51 #[.slice a l.length c] w (CpLP l w) := by
  have HR : Hid (RwV blR w (fun _ => True) a c l) := h.rw
  have HG : Hid (∀ v' w', Gr blR 4 w' w.heap.size (fun _ => True) v' ([] ++ l) → w.grownBy w' none → ∃ a' c', v' = .slice a' l.length c' ∧ CpLP l w (.returned (.slice a' l.length c')) w') := fun v' w' q1 q2 => by
    rw [List.nil_append] at q1
    obtain ⟨a', c', rfl⟩ := q1.form
    exact ⟨a', c', rfl, a', c', rfl, q1.reads.2.bl, q1.pv, (Below.refl _ _).grown q2 (Nat.le_refl _) fun k hk => by cases hk⟩
  have HLn : Hid (([] : List Bool).length + l.length ≤ 1048576) := by show _ ≤ _; simp; omega
  clear h
  generalize CpLP l w = Post at *
  generalize hn : l.length = n at HG ⊢
  have hn2 := hn.symm
  have HN : Hid (n = l.length) := hn2
  clear hn hn2
  go_enter Try.func51, Try.ntmps51
  go_wp2_with (at_builtin; (refine list_appR tyBl (by decide) rfl _ _ rfl (Gr.nil blR 4 w w.heap.size (fun _ => True)) HR.out HN.out (fun g _ _ => ⟨trivial, fun e => by cases e⟩) (Nat.le_refl _) rfl rfl HLn.out ?_; intro v' w' q1 q2 q3; obtain ⟨a', c', e1, q4⟩ := HG.out v' w' q1 q2; subst e1; have HF : Hid (Post (.returned (.slice a' n c')) w') := q4; clear q1 q2 q3 q4))
  exact HF.out
end
section
open Go.RowKit
set_option linter.unusedVariables false
set_option linter.unusedSimpArgs false


set_option maxRecDepth 100000 in
set_option maxHeartbeats 2000000 in
theorem RInts_any {a a2 : Option Addr} {c c2 : Nat} {l m : List Int} {w : World} (hv : IlV w a c l) (hu : IlV w a2 c2 m) : Calls Try.prog 36 #[.slice a l.length c, .slice a2 m.length c2] w fun e w' => e = .returned (.bool (decide (l = m))) ∧ Below w.heap.size w w' := by
  have h1 := hv.cap1
  have h2 := hv.cap2
  have h3 := hu.cap1
  have h4 := hu.cap2
  by_cases hl : l.length = m.length
  · have HY : Hid ((∀ j, j < l.length → l.getD j 0 = m.getD j 0) → decide (l = m) = true) := fun q => decide_eq_true (getD_ext hl q)
    have HN : Hid (∀ i, i < l.length → ¬ l.getD i 0 = m.getD i 0 → decide (l = m) = false) := fun i hi q => decide_eq_false fun e => q (by rw [e])
    have HCl : Hid (∀ wr i, Below w.heap.size w wr → i < l.length → ∃ g o g2 o2, a = some ⟨g, o, none⟩ ∧ a2 = some ⟨g2, o2, none⟩ ∧ wr.cell? ⟨g, o + i, none⟩ = some (.int .i64 (l.getD i 0)) ∧ wr.cell? ⟨g2, o2 + i, none⟩ = some (.int .i64 (m.getD i 0)) ∧ g < wr.heap.size ∧ g2 < wr.heap.size) := fun wr i q hi => by
      obtain ⟨g, o, q1, q2, q3⟩ := (hv.below q).at_ hi
      obtain ⟨g2, o2, r1, r2, r3⟩ := (hu.below q).at_ (show i < m.length by omega)
      exact ⟨g, o, g2, o2, q1, r1, q2, r2, q3, r3⟩
    rw [← hl] at h3 ⊢
    generalize decide (l = m) = r at *
    generalize l.length = n at *
    clear hl hv hu
    go_enter Try.func36, Try.ntmps36
    go_wp2
    go_loopw [5] (fun x wr => ∃ (i : Nat), i ≤ n ∧ x = .int .i64 i ∧ Hid (Below w.heap.size w wr ∧ ∀ j, j < i → l.getD j 0 = m.getD j 0)) (fun x _ => n - (intOf x).toNat)
    case atStart => exact ⟨0, Nat.zero_le _, rfl, Below.refl _ _, fun j hj => absurd hj (Nat.not_lt_zero _)⟩
    case round =>
      obtain ⟨i, hi, rfl, HR⟩ := hrel
      have HB : Hid (Below w.heap.size w wr) := HR.out.1
      have HW : Hid (∀ k, Below w.heap.size w (wr.drewN k)) := fun k => below_drewN HB.out k
      by_cases hlt : i < n
      · obtain ⟨g, o, g2, o2, rfl, rfl, x1, x2, x5, x6⟩ := HCl.out wr i HB.out hlt
        by_cases e1 : l.getD i 0 = m.getD i 0
        · have HQ : Hid (∀ j, j < i + 1 → l.getD j 0 = m.getD j 0) := fun j hj => by
            by_cases e : j = i
            · subst e; exact e1
            · exact HR.out.2 j (by omega)
          rw [e1] at x1
          clear HN HY HCl HR e1
          generalize (m.getD i 0) = t at x1 x2
          go_wp2
          go_quiet (fail)
          go_wp2
          go_roundw
          case rel => exact ⟨i + 1, by omega, by go_num, HW.out _, HQ.out⟩
          case measure => simp [intOf]; omega
        · have HF : Hid (r = false) := HN.out i hlt e1
          have e3 : (l.getD i 0 == m.getD i 0) = false := beq_eq_false_iff_ne.2 e1
          have e4 : (l.getD i 0 != m.getD i 0) = true := by rw [bne, e3]; rfl
          clear HN HY HCl HR
          generalize (l.getD i 0) = t0 at *
          generalize (m.getD i 0) = t at *
          go_wp2
          go_quiet (fail)
          go_wp2
          go_ret
          exact ⟨by rw [HF.out]; rfl, HW.out _⟩
      · have HT : Hid (r = true) := HY.out fun j hj => HR.out.2 j (by omega)
        have hni : decide (i < n) = false := decide_eq_false hlt
        go_wp2
        go_ret
        exact ⟨by rw [HT.out]; rfl, HB.out⟩
  · have HF : Hid (decide (l = m) = false) := decide_eq_false fun e => hl (by rw [e])
    generalize decide (l = m) = r at *
    have e3 : (((l.length : Nat) : Int) == (m.length : Nat)) = false := beq_eq_false_iff_ne.2 (by omega)
    have e4 : (((l.length : Nat) : Int) != (m.length : Nat)) = true := by rw [bne, e3]; rfl
    clear hv hu
    generalize l.length = n at *
    generalize m.length = n2 at *
    go_enter Try.func36, Try.ntmps36
    go_wp2
    go_ret
    exact ⟨by rw [HF.out]; rfl, Below.refl _ _⟩
set_option maxRecDepth 100000 in
set_option maxHeartbeats 2000000 in
theorem RBools_any {a a2 : Option Addr} {c c2 : Nat} {l m : List Bool} {w : World} (hv : BlV w a c l) (hu : BlV w a2 c2 m) : Calls Try.prog 35 #[.slice a l.length c, .slice a2 m.length c2] w fun e w' => e = .returned (.bool (decide (l = m))) ∧ Below w.heap.size w w' := by
  have h1 := hv.cap1
  have h2 := hv.cap2
  have h3 := hu.cap1
  have h4 := hu.cap2
  by_cases hl : l.length = m.length
  · have HY : Hid ((∀ j, j < l.length → l.getD j false = m.getD j false) → decide (l = m) = true) := fun q => decide_eq_true (getD_ext hl q)
    have HN : Hid (∀ i, i < l.length → ¬ l.getD i false = m.getD i false → decide (l = m) = false) := fun i hi q => decide_eq_false fun e => q (by rw [e])
    have HCl : Hid (∀ wr i, Below w.heap.size w wr → i < l.length → ∃ g o g2 o2, a = some ⟨g, o, none⟩ ∧ a2 = some ⟨g2, o2, none⟩ ∧ wr.cell? ⟨g, o + i, none⟩ = some (.bool (l.getD i false)) ∧ wr.cell? ⟨g2, o2 + i, none⟩ = some (.bool (m.getD i false)) ∧ g < wr.heap.size ∧ g2 < wr.heap.size) := fun wr i q hi => by
      obtain ⟨g, o, q1, q2, q3⟩ := (hv.below q).at_ hi
      obtain ⟨g2, o2, r1, r2, r3⟩ := (hu.below q).at_ (show i < m.length by omega)
      exact ⟨g, o, g2, o2, q1, r1, q2, r2, q3, r3⟩
    rw [← hl] at h3 ⊢
    generalize decide (l = m) = r at *
    generalize l.length = n at *
    clear hl hv hu
    go_enter Try.func35, Try.ntmps35
    go_wp2
    go_loopw [5] (fun x wr => ∃ (i : Nat), i ≤ n ∧ x = .int .i64 i ∧ Hid (Below w.heap.size w wr ∧ ∀ j, j < i → l.getD j false = m.getD j false)) (fun x _ => n - (intOf x).toNat)
    case atStart => exact ⟨0, Nat.zero_le _, rfl, Below.refl _ _, fun j hj => absurd hj (Nat.not_lt_zero _)⟩
    case round =>
      obtain ⟨i, hi, rfl, HR⟩ := hrel
      have HB : Hid (Below w.heap.size w wr) := HR.out.1
      have HW : Hid (∀ k, Below w.heap.size w (wr.drewN k)) := fun k => below_drewN HB.out k
      by_cases hlt : i < n
      · obtain ⟨g, o, g2, o2, rfl, rfl, x1, x2, x5, x6⟩ := HCl.out wr i HB.out hlt
        by_cases e1 : l.getD i false = m.getD i false
        · have HQ : Hid (∀ j, j < i + 1 → l.getD j false = m.getD j false) := fun j hj => by
            by_cases e : j = i
            · subst e; exact e1
            · exact HR.out.2 j (by omega)
          rw [e1] at x1
          clear HN HY HCl HR e1
          generalize (m.getD i false) = t at x1 x2
          go_wp2
          go_quiet (fail)
          go_wp2
          go_roundw
          case rel => exact ⟨i + 1, by omega, by go_num, HW.out _, HQ.out⟩
          case measure => simp [intOf]; omega
        · have HF : Hid (r = false) := HN.out i hlt e1
          have e3 : (l.getD i false == m.getD i false) = false := beq_eq_false_iff_ne.2 e1
          have e4 : (l.getD i false != m.getD i false) = true := by rw [bne, e3]; rfl
          clear HN HY HCl HR
          generalize (l.getD i false) = t0 at *
          generalize (m.getD i false) = t at *
          go_wp2
          go_quiet (fail)
          go_wp2
          go_ret
          exact ⟨by rw [HF.out]; rfl, HW.out _⟩
      · have HT : Hid (r = true) := HY.out fun j hj => HR.out.2 j (by omega)
        have hni : decide (i < n) = false := decide_eq_false hlt
        go_wp2
        go_ret
        exact ⟨by rw [HT.out]; rfl, HB.out⟩
  · have HF : Hid (decide (l = m) = false) := decide_eq_false fun e => hl (by rw [e])
    generalize decide (l = m) = r at *
    have e3 : (((l.length : Nat) : Int) == (m.length : Nat)) = false := beq_eq_false_iff_ne.2 (by omega)
    have e4 : (((l.length : Nat) : Int) != (m.length : Nat)) = true := by rw [bne, e3]; rfl
    clear hv hu
    generalize l.length = n at *
    generalize m.length = n2 at *
    go_enter Try.func35, Try.ntmps35
    go_wp2
    go_ret
    exact ⟨by rw [HF.out]; rfl, Below.refl _ _⟩
end
end Go.Proofs.Ytfmfphfckaiejaa

/-
  The program's Same, with its closures and slices.EqualFunc: contracts.
-/
import Derived.Test.YtjafjheffbbkmaaChD
import Derived.Test.YtjafjheffbbkmaaSam
import Derived.Laws.EntriesVeiled
namespace Go.Proofs.Ytjafjheffbbkmaa
section
open Go.RowKit
set_option linter.unusedVariables false

/-- The answer that two are the same, or not. -/
def SameQ {α : Type} (x y : α) (e : Ending) : Prop := ∃ b, e = .returned (.bool b) ∧ (b = true ↔ x = y)
theorem SameQ.no {α : Type} {t t2 : α} (h : ¬ t = t2) : SameQ t t2 (.returned (.bool false)) := ⟨false, rfl, fun h => absurd h (by decide), fun e => absurd e h⟩
theorem SameQ.yes {α : Type} {t t2 : α} (h : t = t2) : SameQ t t2 (.returned (.bool true)) := ⟨true, rfl, fun _ => h, fun _ => rfl⟩
theorem SameQ.of_yes {α : Type} {t t2 : α} {e : Ending} (h : SameQ t t2 e) (he : t = t2) : e = .returned (.bool true) := by
  obtain ⟨b, h1, h2⟩ := h
  rw [h1, h2.2 he]
theorem SameQ.of_no {α : Type} {t t2 : α} {e : Ending} (h : SameQ t t2 e) (he : ¬ t = t2) : e = .returned (.bool false) := by
  obtain ⟨b, h1, h2⟩ := h
  cases b with
  | false => exact h1
  | true => exact absurd (h2.1 rfl) he
theorem list_same {α : Type} {l m : List α} (h : l.length = m.length) (hj : ∀ j (h1 : j < l.length) (h2 : j < m.length), l[j] = m[j]) : l = m := List.ext_getElem h fun j h1 h2 => hj j h1 h2
set_option maxRecDepth 100000 in
set_option maxHeartbeats 800000 in
theorem equalT_any (P Q : Nat → Prop) (l m : List Tr) (a : Option Addr) (c : Nat) (b : Option Addr) (d : Nat) (w : World) (h1 : ExsV w P (.slice a l.length c) l) (h2 : ExsV w Q (.slice b m.length d) m) :
    Calls Try.prog 54 #[.slice a l.length c, .slice b m.length d, .func (.func 55) #[] #[]] w fun e w' => SameQ l m e ∧ Below w.heap.size w w' := by
  obtain ⟨hc1, hl1⟩ := h1.cap
  obtain ⟨hc2, hl2⟩ := h2.cap
  by_cases hlen : l.length = m.length
  case neg =>
    have HE : Hid (¬ l = m) := fun e => hlen (by rw [e])
    have hne : ¬ (l.length : Int) = m.length := by omega
    generalize l.length = ln at *
    generalize m.length = mn at *
    go_enter Try.func54, Try.ntmps54
    go_wp2
    go_ret
    exact ⟨.no HE.out, Below.refl _ _⟩
  have HK1 : Hid (∀ i (h : i < l.length), ∃ b o ka kc, KidAt w P a i l[i] b o ka kc) := fun i h => by
    obtain ⟨a', c', e, _, _, q⟩ := h1.form
    simp only [Value.slice.injEq] at e
    obtain ⟨b, o, ka, kc, q⟩ := q i h
    rw [← e.1, show l.getD i zeroT = l[i] by rw [List.getD_eq_getElem?_getD, List.getElem?_eq_getElem h]; rfl] at q
    exact ⟨b, o, ka, kc, q⟩
  have HK2 : Hid (∀ i (h : i < m.length), ∃ b' o ka kc, KidAt w Q b i m[i] b' o ka kc) := fun i h => by
    obtain ⟨a', c', e, _, _, q⟩ := h2.form
    simp only [Value.slice.injEq] at e
    obtain ⟨b, o, ka, kc, q⟩ := q i h
    rw [← e.1, show m.getD i zeroT = m[i] by rw [List.getD_eq_getElem?_getD, List.getElem?_eq_getElem h]; rfl] at q
    exact ⟨b, o, ka, kc, q⟩
  have HEq : Hid ((∀ j (h1 : j < l.length) (h2 : j < m.length), l[j] = m[j]) → l = m) := fun h => list_same hlen h
  have HNe : Hid (∀ j (h1 : j < l.length) (h2 : j < m.length), ¬ l[j] = m[j] → ¬ l = m) := fun j h1 h2 h e => h (by subst e; rfl)
  have HLen : Hid (l.length = m.length) := hlen
  rw [← hlen] at hc2 ⊢
  clear h1 h2 hlen
  go_enter Try.func54, Try.ntmps54
  go_wp2
  go_loopw [17] (fun v wr => ∃ (i : Nat), i ≤ l.length ∧ v = .int .i64 i ∧ Hid (Below w.heap.size w wr ∧ ∀ j (h1 : j < l.length) (h2 : j < m.length), j < i → l[j] = m[j])) (fun v _ => l.length - (intOf v).toNat)
  case atStart => exact ⟨0, Nat.zero_le _, rfl, Below.refl _ _, fun j _ _ hj => absurd hj (Nat.not_lt_zero _)⟩
  case round =>
    obtain ⟨i, hi, rfl, HR⟩ := hrel
    by_cases hlt : i < l.length
    · have hlt2 : i < m.length := by rw [← HLen.out]; exact hlt
      obtain ⟨g1, o1, ka, kc, hKA⟩ := HK1.out i hlt
      obtain ⟨g2, o2, kb, kd, hKB⟩ := HK2.out i hlt2
      have HKA : Hid (KidAt wr P a i l[i] g1 o1 ka kc) := hKA.below HR.out.1
      have HKB : Hid (KidAt wr Q b i m[i] g2 o2 kb kd) := hKB.below HR.out.1
      obtain ⟨rfl, x0, x1, x2, x3, _⟩ := HKA.out
      obtain ⟨rfl, y0, y1, y2, y3, _⟩ := HKB.out
      have hb1 : g1 < wr.heap.size := World.block_lt_of_cell? wr _ x0
      have hb2 : g2 < wr.heap.size := World.block_lt_of_cell? wr _ y0
      have HC : Hid (∀ w1, Below wr.heap.size wr w1 → Calls Try.prog 55 #[.agg #[.int .i64 l[i].kind, .int .i64 l[i].n, .string (ba l[i].name), .slice ka l[i].kids.length kc], .agg #[.int .i64 m[i].kind, .int .i64 m[i].n, .string (ba m[i].name), .slice kb m[i].kids.length kd]] w1 fun e w' => SameQ l[i] m[i] e ∧ Below w1.heap.size w1 w') := fun w1 hb => by
        refine (same_any l[i] P Q m[i] _ _ w1 (HKA.out.tre.below hb) (HKB.out.tre.below hb)).mono ?_
        rintro e w' ⟨⟨bb, q1, q2⟩, q3⟩
        exact ⟨⟨bb, q1, q2⟩, q3⟩
      clear hKA hKB HKA HKB
      have HQ : Hid (l[i] = m[i] → ∀ j (h1 : j < l.length) (h2 : j < m.length), j < i + 1 → l[j] = m[j]) := fun h j q1 q2 hj => by
        rcases Nat.lt_succ_iff_lt_or_eq.1 hj with h3 | h3
        · exact HR.out.2 j q1 q2 h3
        · subst h3; exact h
      have HNo : Hid (¬ l[i] = m[i] → ¬ l = m) := HNe.out i hlt hlt2
      by_cases hs : l[i] = m[i]
      · have HYes : Hid (l[i] = m[i]) := hs
        have HCy : Hid (∀ w1, Below wr.heap.size wr w1 → Calls Try.prog 55 #[.agg #[.int .i64 l[i].kind, .int .i64 l[i].n, .string (ba l[i].name), .slice ka l[i].kids.length kc], .agg #[.int .i64 m[i].kind, .int .i64 m[i].n, .string (ba m[i].name), .slice kb m[i].kids.length kd]] w1 fun e w' => e = .returned (.bool true) ∧ Below w1.heap.size w1 w') := fun w1 hb => by
          refine (HC.out w1 hb).mono ?_
          rintro e w' ⟨q1, q2⟩
          exact ⟨q1.of_yes HYes.out, q2⟩
        clear hs HC HNe
        generalize l[i].kind = k1 at *
        generalize l[i].n = n1 at *
        generalize ba l[i].name = s1 at *
        generalize l[i].kids.length = l1 at *
        generalize m[i].kind = k2 at *
        generalize m[i].n = n2 at *
        generalize ba m[i].name = s2 at *
        generalize m[i].kids.length = l2 at *
        go_wp2_with (go_at_call 55; refine (HCy.out _ (((Below.refl _ _).alloc (Nat.le_refl _) _).alloc (le_alloc _ _) _)).mono ?_; rintro e w3 ⟨rfl, HB⟩; have HB3 : Hid (Below w.heap.size w w3) := HR.out.1.trans (((((Below.refl _ _).alloc (Nat.le_refl _) _).alloc (le_alloc _ _) _).trans (HB.mono (Nat.le_trans (le_alloc _ _) (le_alloc _ _)))).mono HR.out.1.size); clear HB)
        go_roundw
        case rel => exact ⟨i + 1, by omega, by go_num, HB3.out, HQ.out HYes.out⟩
        case measure => simp [intOf]; omega
      · have HNy : Hid (¬ l[i] = m[i]) := hs
        have HCn : Hid (∀ w1, Below wr.heap.size wr w1 → Calls Try.prog 55 #[.agg #[.int .i64 l[i].kind, .int .i64 l[i].n, .string (ba l[i].name), .slice ka l[i].kids.length kc], .agg #[.int .i64 m[i].kind, .int .i64 m[i].n, .string (ba m[i].name), .slice kb m[i].kids.length kd]] w1 fun e w' => e = .returned (.bool false) ∧ Below w1.heap.size w1 w') := fun w1 hb => by
          refine (HC.out w1 hb).mono ?_
          rintro e w' ⟨q1, q2⟩
          exact ⟨q1.of_no HNy.out, q2⟩
        clear hs HC HNe
        generalize l[i].kind = k1 at *
        generalize l[i].n = n1 at *
        generalize ba l[i].name = s1 at *
        generalize l[i].kids.length = l1 at *
        generalize m[i].kind = k2 at *
        generalize m[i].n = n2 at *
        generalize ba m[i].name = s2 at *
        generalize m[i].kids.length = l2 at *
        go_wp2_with (go_at_call 55; refine (HCn.out _ (((Below.refl _ _).alloc (Nat.le_refl _) _).alloc (le_alloc _ _) _)).mono ?_; rintro e w3 ⟨rfl, HB⟩; have HB3 : Hid (Below w.heap.size w w3) := HR.out.1.trans (((((Below.refl _ _).alloc (Nat.le_refl _) _).alloc (le_alloc _ _) _).trans (HB.mono (Nat.le_trans (le_alloc _ _) (le_alloc _ _)))).mono HR.out.1.size); clear HB)
        go_ret
        exact ⟨.no (HNo.out HNy.out), HB3.out⟩
    · have he : i = l.length := by omega
      subst he
      have HE : Hid (l = m) := HEq.out fun j q1 q2 => HR.out.2 j q1 q2 q1
      have HB3 : Hid (Below w.heap.size w wr) := HR.out.1
      clear HR
      go_wp2
      go_ret
      exact ⟨.yes HE.out, HB3.out⟩
set_option maxRecDepth 100000 in
theorem trees_same (P Q : Nat → Prop) (l m : List Tr) (a : Option Addr) (c : Nat) (b : Option Addr) (d : Nat) (w : World) (h1 : ExsV w P (.slice a l.length c) l) (h2 : ExsV w Q (.slice b m.length d) m) :
    Calls Try.prog 53 #[.slice a l.length c, .slice b m.length d] w fun e w' => SameQ l m e ∧ Below w.heap.size w w' := by
  have HE : Hid (Calls Try.prog 54 #[.slice a l.length c, .slice b m.length d, .func (.func 55) #[] #[]] w fun e w' => SameQ l m e ∧ Below w.heap.size w w') := equalT_any P Q l m a c b d w h1 h2
  clear h1 h2
  generalize l.length = ln at *
  generalize m.length = mn at *
  go_enter Try.func53, Try.ntmps53
  go_wp2_with (go_at_call 54; refine HE.out.mono ?_; rintro e w1 ⟨⟨bb, rfl, q1⟩, q2⟩; have H1 : Hid (bb = true ↔ l = m) := q1; clear q1)
  go_ret
  exact ⟨⟨_, rfl, H1.out⟩, q2⟩
end
section
open Go.RowKit
set_option linter.unusedVariables false

theorem fl_eq {f g : Fl} : f = g ↔ f.to = g.to ∧ f.ifs = g.ifs := by
  constructor
  · rintro rfl; exact ⟨rfl, rfl⟩
  · obtain ⟨a, b⟩ := f
    obtain ⟨c, d⟩ := g
    rintro ⟨h1, h2⟩
    simp only at h1 h2
    rw [h1, h2]
theorem pl_eq {f g : Pl} : f = g ↔ f.kind = g.kind ∧ f.name = g.name ∧ f.n = g.n ∧ f.arg = g.arg ∧ f.out = g.out := by
  constructor
  · rintro rfl; exact ⟨rfl, rfl, rfl, rfl, rfl⟩
  · obtain ⟨a, b, c, d, e⟩ := f
    obtain ⟨a', b', c', d', e'⟩ := g
    rintro ⟨h1, h2, h3, h4, h5⟩
    simp only at h1 h2 h3 h4 h5
    rw [h1, h2, h3, h4, h5]
theorem cell5_second (w : World) (o : Obj) (v0 v1 v2 v3 v4 : Value) (t : TypeId) : Cell5 ((w.alloc o).alloc (.cells #[v0, v1, v2, v3, v4] t)) (w.heap.size + 1) v0 v1 v2 v3 v4 := by
  have := Cell5.new (w.alloc o) v0 v1 v2 v3 v4 t
  rw [size_alloc] at this
  exact this
set_option maxRecDepth 100000 in
theorem flows_same (P Q : Nat → Prop) (f g : Fl) (a : Option Addr) (c : Nat) (b : Option Addr) (d : Nat) (tb : Nat) (w : World) (h1 : ExsV w P (.slice a f.ifs.length c) f.ifs) (h2 : ExsV w Q (.slice b g.ifs.length d) g.ifs) (hc : w.cell? ⟨tb, 0, none⟩ = some (.func (.func 53) #[] #[])) :
    Calls Try.prog 56 #[.agg #[.int .i64 f.to, .slice a f.ifs.length c], .agg #[.int .i64 g.to, .slice b g.ifs.length d], .pointer (some ⟨tb, 0, none⟩)] w fun e w' => SameQ f g e ∧ Below w.heap.size w w' := by
  have hlt := World.block_lt_of_cell? _ _ hc
  have HT : Hid (∀ w1, Below w.heap.size w w1 → Calls Try.prog 53 #[.slice a f.ifs.length c, .slice b g.ifs.length d] w1 fun e w' => SameQ f.ifs g.ifs e ∧ Below w1.heap.size w1 w') := fun w1 hb => trees_same P Q _ _ _ _ _ _ w1 (h1.kept (kept_below hb)) (h2.kept (kept_below hb))
  have HEq : Hid (f = g ↔ f.to = g.to ∧ f.ifs = g.ifs) := fl_eq
  clear h1 h2
  by_cases ht : f.to = g.to
  · rw [← ht]
    have HEq2 : Hid (f = g ↔ f.ifs = g.ifs) := HEq.out.trans ⟨fun h => h.2, fun h => ⟨ht, h⟩⟩
    clear HEq ht
    generalize f.ifs.length = ln at *
    generalize g.ifs.length = mn at *
    generalize f.to = to at *
    go_enter Try.func56, Try.ntmps56
    go_wp2_with (go_at_call 53; refine (HT.out _ (((Below.refl _ _).alloc (Nat.le_refl _) _).alloc (le_alloc _ _) _)).mono ?_; rintro e w1 ⟨⟨bb, rfl, q1⟩, q2⟩; have H1 : Hid (bb = true ↔ f.ifs = g.ifs) := q1; have HB : Hid (Below w.heap.size w w1) := (((Below.refl _ _).alloc (Nat.le_refl _) _).alloc (le_alloc _ _) _).trans (q2.mono (Nat.le_trans (le_alloc _ _) (le_alloc _ _))); clear q1 q2)
    go_ret
    exact ⟨⟨_, rfl, H1.out.trans HEq2.out.symm⟩, HB.out⟩
  · have HNe : Hid (¬ f = g) := fun e => ht (HEq.out.1 e).1
    have ht2 : (f.to == g.to) = false := by simpa using ht
    clear HEq ht
    generalize f.ifs.length = ln at *
    generalize g.ifs.length = mn at *
    generalize f.to = to1 at *
    generalize g.to = to2 at *
    go_enter Try.func56, Try.ntmps56
    go_wp2_with fail
    go_ret
    exact ⟨.no HNe.out, ((Below.refl _ _).alloc (Nat.le_refl _) _).alloc (le_alloc _ _) _⟩
set_option maxRecDepth 100000 in
set_option maxHeartbeats 800000 in
theorem equalF_any (P Q : Nat → Prop) (l m : List Fl) (a : Option Addr) (c : Nat) (b : Option Addr) (d : Nat) (tb : Nat) (w : World) (h1 : FlsV w P (.slice a l.length c) l) (h2 : FlsV w Q (.slice b m.length d) m) (hce : w.cell? ⟨tb, 0, none⟩ = some (.func (.func 53) #[] #[])) :
    Calls Try.prog 58 #[.slice a l.length c, .slice b m.length d, .func (.func 56) #[] #[.pointer (some ⟨tb, 0, none⟩)]] w fun e w' => SameQ l m e ∧ Below w.heap.size w w' := by
  obtain ⟨hc1, hl1⟩ := h1.cap
  obtain ⟨hc2, hl2⟩ := h2.cap
  by_cases hlen : l.length = m.length
  case neg =>
    have HE : Hid (¬ l = m) := fun e => hlen (by rw [e])
    have hne : ¬ (l.length : Int) = m.length := by omega
    generalize l.length = ln at *
    generalize m.length = mn at *
    go_enter Try.func58, Try.ntmps58
    go_wp2
    go_ret
    exact ⟨.no HE.out, Below.refl _ _⟩
  have HK1 : Hid (∀ i (h : i < l.length), ∃ b o ka kc, a = some ⟨b, o, none⟩ ∧ FlAt w (fun _ => True) b (o + i * 2) l[i] ka kc) := fun i h => by
    obtain ⟨b, o, ka, kc, e, _, q⟩ := (h1.kept (Q := fun _ => True) (kept_sub fun _ _ => trivial)).at i h
    rw [getD_memF h] at q
    exact ⟨b, o, ka, kc, e, q⟩
  have HK2 : Hid (∀ i (h : i < m.length), ∃ b' o ka kc, b = some ⟨b', o, none⟩ ∧ FlAt w (fun _ => True) b' (o + i * 2) m[i] ka kc) := fun i h => by
    obtain ⟨b, o, ka, kc, e, _, q⟩ := (h2.kept (Q := fun _ => True) (kept_sub fun _ _ => trivial)).at i h
    rw [getD_memF h] at q
    exact ⟨b, o, ka, kc, e, q⟩
  have HCe : Hid (w.cell? ⟨tb, 0, none⟩ = some (.func (.func 53) #[] #[])) := hce
  clear hce
  have HEq : Hid ((∀ j (h1 : j < l.length) (h2 : j < m.length), l[j] = m[j]) → l = m) := fun h => list_same hlen h
  have HNe : Hid (∀ j (h1 : j < l.length) (h2 : j < m.length), ¬ l[j] = m[j] → ¬ l = m) := fun j h1 h2 h e => h (by subst e; rfl)
  have HLen : Hid (l.length = m.length) := hlen
  rw [← hlen] at hc2 ⊢
  clear h1 h2 hlen
  go_enter Try.func58, Try.ntmps58
  go_wp2
  go_loopw [17] (fun v wr => ∃ (i : Nat), i ≤ l.length ∧ v = .int .i64 i ∧ Hid (Below w.heap.size w wr ∧ ∀ j (h1 : j < l.length) (h2 : j < m.length), j < i → l[j] = m[j])) (fun v _ => l.length - (intOf v).toNat)
  case atStart => exact ⟨0, Nat.zero_le _, rfl, Below.refl _ _, fun j _ _ hj => absurd hj (Nat.not_lt_zero _)⟩
  case round =>
    obtain ⟨i, hi, rfl, HR⟩ := hrel
    by_cases hlt : i < l.length
    · have hlt2 : i < m.length := by rw [← HLen.out]; exact hlt
      obtain ⟨g1, o1, ka, kc, rfl, hKA⟩ := HK1.out i hlt
      obtain ⟨g2, o2, kb, kd, rfl, hKB⟩ := HK2.out i hlt2
      have HKA : Hid (FlAt wr (fun _ => True) g1 (o1 + i * 2) l[i] ka kc) := hKA.kept trivial (kept_below HR.out.1)
      have HKB : Hid (FlAt wr (fun _ => True) g2 (o2 + i * 2) m[i] kb kd) := hKB.kept trivial (kept_below HR.out.1)
      obtain ⟨x0, x1, _, _⟩ := HKA.out
      obtain ⟨y0, y1, _, _⟩ := HKB.out
      have hb1 : g1 < wr.heap.size := World.block_lt_of_cell? wr _ x0
      have hb2 : g2 < wr.heap.size := World.block_lt_of_cell? wr _ y0
      have hcw : wr.cell? ⟨tb, 0, none⟩ = some (.func (.func 53) #[] #[]) := (HR.out.1.cell (p := ⟨tb, 0, none⟩) (World.block_lt_of_cell? _ _ HCe.out)).trans HCe.out
      have HCw : Hid (wr.cell? ⟨tb, 0, none⟩ = some (.func (.func 53) #[] #[])) := hcw
      clear hcw
      have HC : Hid (∀ w1, Below wr.heap.size wr w1 → Calls Try.prog 56 #[.agg #[.int .i64 l[i].to, .slice ka l[i].ifs.length kc], .agg #[.int .i64 m[i].to, .slice kb m[i].ifs.length kd], .pointer (some ⟨tb, 0, none⟩)] w1 fun e w' => SameQ l[i] m[i] e ∧ Below w1.heap.size w1 w') := fun w1 hb => flows_same (fun _ => True) (fun _ => True) l[i] m[i] _ _ _ _ tb w1 (HKA.out.ifs.kept (kept_below hb)) (HKB.out.ifs.kept (kept_below hb)) ((hb.cell (p := ⟨tb, 0, none⟩) (World.block_lt_of_cell? _ _ HCw.out)).trans HCw.out)
      clear hKA hKB HKA HKB
      have HQ : Hid (l[i] = m[i] → ∀ j (h1 : j < l.length) (h2 : j < m.length), j < i + 1 → l[j] = m[j]) := fun h j q1 q2 hj => by
        rcases Nat.lt_succ_iff_lt_or_eq.1 hj with h3 | h3
        · exact HR.out.2 j q1 q2 h3
        · subst h3; exact h
      have HNo : Hid (¬ l[i] = m[i] → ¬ l = m) := HNe.out i hlt hlt2
      by_cases hs : l[i] = m[i]
      · have HYes : Hid (l[i] = m[i]) := hs
        have HCy : Hid (∀ w1, Below wr.heap.size wr w1 → Calls Try.prog 56 #[.agg #[.int .i64 l[i].to, .slice ka l[i].ifs.length kc], .agg #[.int .i64 m[i].to, .slice kb m[i].ifs.length kd], .pointer (some ⟨tb, 0, none⟩)] w1 fun e w' => e = .returned (.bool true) ∧ Below w1.heap.size w1 w') := fun w1 hb => by
          refine (HC.out w1 hb).mono ?_
          rintro e w' ⟨q1, q2⟩
          exact ⟨q1.of_yes HYes.out, q2⟩
        clear hs HC HNe
        generalize l[i].to = k1 at *
        generalize l[i].ifs.length = l1 at *
        generalize m[i].to = k2 at *
        generalize m[i].ifs.length = l2 at *
        go_wp2_with (go_at_call 56; refine (HCy.out _ (((Below.refl _ _).alloc (Nat.le_refl _) _).alloc (le_alloc _ _) _)).mono ?_; rintro e w3 ⟨rfl, HB⟩; have HB3 : Hid (Below w.heap.size w w3) := HR.out.1.trans (((((Below.refl _ _).alloc (Nat.le_refl _) _).alloc (le_alloc _ _) _).trans (HB.mono (Nat.le_trans (le_alloc _ _) (le_alloc _ _)))).mono HR.out.1.size); clear HB)
        go_roundw
        case rel => exact ⟨i + 1, by omega, by go_num, HB3.out, HQ.out HYes.out⟩
        case measure => simp [intOf]; omega
      · have HNy : Hid (¬ l[i] = m[i]) := hs
        have HCn : Hid (∀ w1, Below wr.heap.size wr w1 → Calls Try.prog 56 #[.agg #[.int .i64 l[i].to, .slice ka l[i].ifs.length kc], .agg #[.int .i64 m[i].to, .slice kb m[i].ifs.length kd], .pointer (some ⟨tb, 0, none⟩)] w1 fun e w' => e = .returned (.bool false) ∧ Below w1.heap.size w1 w') := fun w1 hb => by
          refine (HC.out w1 hb).mono ?_
          rintro e w' ⟨q1, q2⟩
          exact ⟨q1.of_no HNy.out, q2⟩
        clear hs HC HNe
        generalize l[i].to = k1 at *
        generalize l[i].ifs.length = l1 at *
        generalize m[i].to = k2 at *
        generalize m[i].ifs.length = l2 at *
        go_wp2_with (go_at_call 56; refine (HCn.out _ (((Below.refl _ _).alloc (Nat.le_refl _) _).alloc (le_alloc _ _) _)).mono ?_; rintro e w3 ⟨rfl, HB⟩; have HB3 : Hid (Below w.heap.size w w3) := HR.out.1.trans (((((Below.refl _ _).alloc (Nat.le_refl _) _).alloc (le_alloc _ _) _).trans (HB.mono (Nat.le_trans (le_alloc _ _) (le_alloc _ _)))).mono HR.out.1.size); clear HB)
        go_ret
        exact ⟨.no (HNo.out HNy.out), HB3.out⟩
    · have he : i = l.length := by omega
      subst he
      have HE : Hid (l = m) := HEq.out fun j q1 q2 => HR.out.2 j q1 q2 q1
      have HB3 : Hid (Below w.heap.size w wr) := HR.out.1
      clear HR
      go_wp2
      go_ret
      exact ⟨.yes HE.out, HB3.out⟩
set_option maxRecDepth 100000 in
set_option maxHeartbeats 800000 in
theorem places_same (P Q : Nat → Prop) (f g : Pl) (aa : Option Addr) (ca : Nat) (ao : Option Addr) (co : Nat) (ba2 : Option Addr) (da : Nat) (bo : Option Addr) (do2 : Nat) (tb fb : Nat) (w : World) (h1 : PlV w P f aa ca ao co) (h2 : PlV w Q g ba2 da bo do2) (hc : w.cell? ⟨tb, 0, none⟩ = some (.func (.func 53) #[] #[])) (hc2 : w.cell? ⟨fb, 0, none⟩ = some (.func (.func 56) #[] #[.pointer (some ⟨tb, 0, none⟩)])) :
    Calls Try.prog 57 #[.agg #[.int .i64 f.kind, .string (ba f.name), .int .i64 f.n, .slice aa f.arg.length ca, .slice ao f.out.length co], .agg #[.int .i64 g.kind, .string (ba g.name), .int .i64 g.n, .slice ba2 g.arg.length da, .slice bo g.out.length do2], .pointer (some ⟨tb, 0, none⟩), .pointer (some ⟨fb, 0, none⟩)] w fun e w' => SameQ f g e ∧ Below w.heap.size w w' := by
  have hlt := World.block_lt_of_cell? _ _ hc
  have hlt2 := World.block_lt_of_cell? _ _ hc2
  have HT0 : Hid (∀ w1, Below w.heap.size w w1 → Calls Try.prog 53 #[.slice aa f.arg.length ca, .slice ba2 g.arg.length da] w1 fun e w' => SameQ f.arg g.arg e ∧ Below w1.heap.size w1 w') := fun w1 hb => trees_same P Q _ _ _ _ _ _ w1 (h1.arg.kept (kept_below hb)) (h2.arg.kept (kept_below hb))
  have HF : Hid (∀ w1, Below w.heap.size w w1 → Calls Try.prog 58 #[.slice ao f.out.length co, .slice bo g.out.length do2, .func (.func 56) #[] #[.pointer (some ⟨tb, 0, none⟩)]] w1 fun e w' => SameQ f.out g.out e ∧ Below w1.heap.size w1 w') := fun w1 hb => equalF_any P Q _ _ _ _ _ _ tb w1 (h1.out.kept (kept_below hb)) (h2.out.kept (kept_below hb)) ((hb.cell (p := ⟨tb, 0, none⟩) hlt).trans hc)
  have HEq : Hid (f = g ↔ f.kind = g.kind ∧ f.name = g.name ∧ f.n = g.n ∧ f.arg = g.arg ∧ f.out = g.out) := pl_eq
  clear h1 h2
  by_cases e1 : f.kind = g.kind
  case neg =>
    have HNe : Hid (¬ f = g) := fun e => e1 (HEq.out.1 e).1
    have e1' : (f.kind == g.kind) = false := by simpa using e1
    clear HEq e1 HT0 HF
    generalize f.kind = k1 at *
    generalize g.kind = k2 at *
    generalize ba f.name = s1 at *
    generalize ba g.name = s2 at *
    generalize f.n = n1 at *
    generalize g.n = n2 at *
    generalize f.arg.length = la1 at *
    generalize g.arg.length = la2 at *
    generalize f.out.length = lo1 at *
    generalize g.out.length = lo2 at *
    go_enter Try.func57, Try.ntmps57
    go_wp2_with (fail)
    go_ret
    exact ⟨.no HNe.out, ((Below.refl _ _).alloc (Nat.le_refl _) _).alloc (le_alloc _ _) _⟩
  rw [← e1]
  by_cases e2 : f.name = g.name
  case neg =>
    have HNe : Hid (¬ f = g) := fun e => e2 (HEq.out.1 e).2.1
    have e2' : ((ba f.name).toList == (ba g.name).toList) = false := toList_ne e2
    clear HEq e2 HT0 HF e1
    generalize f.kind = k1 at *
    generalize ba f.name = s1 at *
    generalize ba g.name = s2 at *
    generalize f.n = n1 at *
    generalize g.n = n2 at *
    generalize f.arg.length = la1 at *
    generalize g.arg.length = la2 at *
    generalize f.out.length = lo1 at *
    generalize g.out.length = lo2 at *
    go_enter Try.func57, Try.ntmps57
    go_wp2_with (fail)
    go_ret
    exact ⟨.no HNe.out, ((Below.refl _ _).alloc (Nat.le_refl _) _).alloc (le_alloc _ _) _⟩
  rw [← e2]
  by_cases e3 : f.n = g.n
  case neg =>
    have HNe : Hid (¬ f = g) := fun e => e3 (HEq.out.1 e).2.2.1
    have e3' : (f.n == g.n) = false := by simpa using e3
    clear HEq e3 HT0 HF e1 e2
    generalize f.kind = k1 at *
    generalize ba f.name = s1 at *
    generalize f.n = n1 at *
    generalize g.n = n2 at *
    generalize f.arg.length = la1 at *
    generalize g.arg.length = la2 at *
    generalize f.out.length = lo1 at *
    generalize g.out.length = lo2 at *
    go_enter Try.func57, Try.ntmps57
    go_wp2_with (fail)
    go_ret
    exact ⟨.no HNe.out, ((Below.refl _ _).alloc (Nat.le_refl _) _).alloc (le_alloc _ _) _⟩
  rw [← e3]
  by_cases e4 : f.arg = g.arg
  case neg =>
    have HNe : Hid (¬ f = g) := fun e => e4 (HEq.out.1 e).2.2.2.1
    have HT : Hid (∀ w1, Below w.heap.size w w1 → Calls Try.prog 53 #[.slice aa f.arg.length ca, .slice ba2 g.arg.length da] w1 fun e w' => e = .returned (.bool false) ∧ Below w1.heap.size w1 w') := fun w1 hb => by
      refine (HT0.out w1 hb).mono ?_
      rintro e w' ⟨q1, q2⟩
      exact ⟨q1.of_no e4, q2⟩
    clear HEq e4 HT0 HF e1 e2 e3
    generalize f.kind = k1 at *
    generalize ba f.name = s1 at *
    generalize f.n = n1 at *
    generalize f.arg.length = la1 at *
    generalize g.arg.length = la2 at *
    generalize f.out.length = lo1 at *
    generalize g.out.length = lo2 at *
    go_enter Try.func57, Try.ntmps57
    go_wp2_with (go_at_call 53; refine (HT.out _ (((Below.refl _ _).alloc (Nat.le_refl _) _).alloc (le_alloc _ _) _)).mono ?_; rintro e w1 ⟨rfl, q2⟩; have HB : Hid (Below w.heap.size w w1) := (((Below.refl _ _).alloc (Nat.le_refl _) _).alloc (le_alloc _ _) _).trans (q2.mono (Nat.le_trans (le_alloc _ _) (le_alloc _ _))); clear q2)
    go_ret
    exact ⟨.no HNe.out, HB.out⟩
  have HT : Hid (∀ w1, Below w.heap.size w w1 → Calls Try.prog 53 #[.slice aa f.arg.length ca, .slice ba2 g.arg.length da] w1 fun e w' => e = .returned (.bool true) ∧ Below w1.heap.size w1 w') := fun w1 hb => by
    refine (HT0.out w1 hb).mono ?_
    rintro e w' ⟨q1, q2⟩
    exact ⟨q1.of_yes e4, q2⟩
  have HEq2 : Hid (f = g ↔ f.out = g.out) := HEq.out.trans ⟨fun h => h.2.2.2.2, fun h => ⟨e1, e2, e3, e4, h⟩⟩
  clear HEq e4 HT0 e1 e2 e3
  generalize f.kind = k1 at *
  generalize ba f.name = s1 at *
  generalize f.n = n1 at *
  generalize f.arg.length = la1 at *
  generalize g.arg.length = la2 at *
  generalize f.out.length = lo1 at *
  generalize g.out.length = lo2 at *
  go_enter Try.func57, Try.ntmps57
  go_wp2_with (first
    | (go_at_call 58; have := HB; refine (HF.out _ HB.out).mono ?_; rintro e w3 ⟨⟨bb, rfl, q1⟩, q2⟩; have H1 : Hid (bb = true ↔ f.out = g.out) := q1; have HB2 : Hid (Below w.heap.size w w3) := HB.out.trans (q2.mono HB.out.size); clear q1 q2 HB)
    | (go_at_call 53; refine (HT.out _ (((Below.refl _ _).alloc (Nat.le_refl _) _).alloc (le_alloc _ _) _)).mono ?_; rintro e w1 ⟨rfl, q2⟩; have HB : Hid (Below w.heap.size w w1) := (((Below.refl _ _).alloc (Nat.le_refl _) _).alloc (le_alloc _ _) _).trans (q2.mono (Nat.le_trans (le_alloc _ _) (le_alloc _ _))); obtain ⟨c0, c1, c2, c3, c4, c5⟩ := ((Cell5.new w (.int .i64 k1) (.string s1) (.int .i64 n1) (.slice aa la1 ca) (.slice ao lo1 co) 57).below ((Below.refl _ _).alloc (Nat.le_refl _) (.cells #[.int .i64 k1, .string s1, .int .i64 n1, .slice ba2 la2 da, .slice bo lo2 do2] 57))).below q2; obtain ⟨d0, d1, d2, d3, d4, d5⟩ := (cell5_second w (.cells #[.int .i64 k1, .string s1, .int .i64 n1, .slice aa la1 ca, .slice ao lo1 co] 57) (.int .i64 k1) (.string s1) (.int .i64 n1) (.slice ba2 la2 da) (.slice bo lo2 do2) 57).below q2; have hcf := (HB.out.cell (p := ⟨fb, 0, none⟩) hlt2).trans hc2; clear q2))
  go_ret
  exact ⟨⟨_, rfl, H1.out.trans HEq2.out.symm⟩, HB2.out⟩
set_option maxRecDepth 100000 in
set_option maxHeartbeats 800000 in
theorem equalP_any (P Q : Nat → Prop) (l m : List Pl) (a : Option Addr) (c : Nat) (b : Option Addr) (d : Nat) (tb fb : Nat) (w : World) (h1 : PlsV w P (.slice a l.length c) l) (h2 : PlsV w Q (.slice b m.length d) m) (hce : w.cell? ⟨tb, 0, none⟩ = some (.func (.func 53) #[] #[])) (hcf : w.cell? ⟨fb, 0, none⟩ = some (.func (.func 56) #[] #[.pointer (some ⟨tb, 0, none⟩)])) :
    Calls Try.prog 59 #[.slice a l.length c, .slice b m.length d, .func (.func 57) #[] #[.pointer (some ⟨tb, 0, none⟩), .pointer (some ⟨fb, 0, none⟩)]] w fun e w' => SameQ l m e ∧ Below w.heap.size w w' := by
  obtain ⟨hc1, hl1⟩ := h1.cap
  obtain ⟨hc2, hl2⟩ := h2.cap
  by_cases hlen : l.length = m.length
  case neg =>
    have HE : Hid (¬ l = m) := fun e => hlen (by rw [e])
    have hne : ¬ (l.length : Int) = m.length := by omega
    generalize l.length = ln at *
    generalize m.length = mn at *
    go_enter Try.func59, Try.ntmps59
    go_wp2
    go_ret
    exact ⟨.no HE.out, Below.refl _ _⟩
  have HK1 : Hid (∀ i (h : i < l.length), ∃ b o aa ca ao co, a = some ⟨b, o, none⟩ ∧ PlAt w (fun _ => True) b (o + i * 5) l[i] aa ca ao co) := fun i h => by
    obtain ⟨b, o, aa, ca, ao, co, e, _, q⟩ := (h1.kept (Q := fun _ => True) (kept_sub fun _ _ => trivial)).at i h
    rw [getD_memP h] at q
    exact ⟨b, o, aa, ca, ao, co, e, q⟩
  have HK2 : Hid (∀ i (h : i < m.length), ∃ b' o aa ca ao co, b = some ⟨b', o, none⟩ ∧ PlAt w (fun _ => True) b' (o + i * 5) m[i] aa ca ao co) := fun i h => by
    obtain ⟨b, o, aa, ca, ao, co, e, _, q⟩ := (h2.kept (Q := fun _ => True) (kept_sub fun _ _ => trivial)).at i h
    rw [getD_memP h] at q
    exact ⟨b, o, aa, ca, ao, co, e, q⟩
  have HCe : Hid (w.cell? ⟨tb, 0, none⟩ = some (.func (.func 53) #[] #[]) ∧ w.cell? ⟨fb, 0, none⟩ = some (.func (.func 56) #[] #[.pointer (some ⟨tb, 0, none⟩)])) := ⟨hce, hcf⟩
  clear hce hcf
  have HEq : Hid ((∀ j (h1 : j < l.length) (h2 : j < m.length), l[j] = m[j]) → l = m) := fun h => list_same hlen h
  have HNe : Hid (∀ j (h1 : j < l.length) (h2 : j < m.length), ¬ l[j] = m[j] → ¬ l = m) := fun j h1 h2 h e => h (by subst e; rfl)
  have HLen : Hid (l.length = m.length) := hlen
  rw [← hlen] at hc2 ⊢
  clear h1 h2 hlen
  go_enter Try.func59, Try.ntmps59
  go_wp2
  go_loopw [17] (fun v wr => ∃ (i : Nat), i ≤ l.length ∧ v = .int .i64 i ∧ Hid (Below w.heap.size w wr ∧ ∀ j (h1 : j < l.length) (h2 : j < m.length), j < i → l[j] = m[j])) (fun v _ => l.length - (intOf v).toNat)
  case atStart => exact ⟨0, Nat.zero_le _, rfl, Below.refl _ _, fun j _ _ hj => absurd hj (Nat.not_lt_zero _)⟩
  case round =>
    obtain ⟨i, hi, rfl, HR⟩ := hrel
    by_cases hlt : i < l.length
    · have hlt2 : i < m.length := by rw [← HLen.out]; exact hlt
      obtain ⟨g1, o1, pa, pb, pc, pd, rfl, hKA⟩ := HK1.out i hlt
      obtain ⟨g2, o2, qa, qb, qc, qd, rfl, hKB⟩ := HK2.out i hlt2
      have HKA : Hid (PlAt wr (fun _ => True) g1 (o1 + i * 5) l[i] pa pb pc pd) := hKA.kept trivial (kept_below HR.out.1)
      have HKB : Hid (PlAt wr (fun _ => True) g2 (o2 + i * 5) m[i] qa qb qc qd) := hKB.kept trivial (kept_below HR.out.1)
      obtain ⟨x0, x1, x2, x3, x4, _⟩ := HKA.out
      obtain ⟨y0, y1, y2, y3, y4, _⟩ := HKB.out
      have hb1 : g1 < wr.heap.size := World.block_lt_of_cell? wr _ x0
      have hb2 : g2 < wr.heap.size := World.block_lt_of_cell? wr _ y0
      have HCw : Hid (wr.cell? ⟨tb, 0, none⟩ = some (.func (.func 53) #[] #[]) ∧ wr.cell? ⟨fb, 0, none⟩ = some (.func (.func 56) #[] #[.pointer (some ⟨tb, 0, none⟩)])) := ⟨(HR.out.1.cell (p := ⟨tb, 0, none⟩) (World.block_lt_of_cell? _ _ HCe.out.1)).trans HCe.out.1, (HR.out.1.cell (p := ⟨fb, 0, none⟩) (World.block_lt_of_cell? _ _ HCe.out.2)).trans HCe.out.2⟩
      have HC : Hid (∀ w1, Below wr.heap.size wr w1 → Calls Try.prog 57 #[.agg #[.int .i64 l[i].kind, .string (ba l[i].name), .int .i64 l[i].n, .slice pa l[i].arg.length pb, .slice pc l[i].out.length pd], .agg #[.int .i64 m[i].kind, .string (ba m[i].name), .int .i64 m[i].n, .slice qa m[i].arg.length qb, .slice qc m[i].out.length qd], .pointer (some ⟨tb, 0, none⟩), .pointer (some ⟨fb, 0, none⟩)] w1 fun e w' => SameQ l[i] m[i] e ∧ Below w1.heap.size w1 w') := fun w1 hb => places_same (fun _ => True) (fun _ => True) l[i] m[i] _ _ _ _ _ _ _ _ tb fb w1 (HKA.out.val.kept (kept_below hb)) (HKB.out.val.kept (kept_below hb)) ((hb.cell (p := ⟨tb, 0, none⟩) (World.block_lt_of_cell? _ _ HCw.out.1)).trans HCw.out.1) ((hb.cell (p := ⟨fb, 0, none⟩) (World.block_lt_of_cell? _ _ HCw.out.2)).trans HCw.out.2)
      clear hKA hKB HKA HKB
      have HQ : Hid (l[i] = m[i] → ∀ j (h1 : j < l.length) (h2 : j < m.length), j < i + 1 → l[j] = m[j]) := fun h j q1 q2 hj => by
        rcases Nat.lt_succ_iff_lt_or_eq.1 hj with h3 | h3
        · exact HR.out.2 j q1 q2 h3
        · subst h3; exact h
      have HNo : Hid (¬ l[i] = m[i] → ¬ l = m) := HNe.out i hlt hlt2
      by_cases hs : l[i] = m[i]
      · have HYes : Hid (l[i] = m[i]) := hs
        have HCy : Hid (∀ w1, Below wr.heap.size wr w1 → Calls Try.prog 57 #[.agg #[.int .i64 l[i].kind, .string (ba l[i].name), .int .i64 l[i].n, .slice pa l[i].arg.length pb, .slice pc l[i].out.length pd], .agg #[.int .i64 m[i].kind, .string (ba m[i].name), .int .i64 m[i].n, .slice qa m[i].arg.length qb, .slice qc m[i].out.length qd], .pointer (some ⟨tb, 0, none⟩), .pointer (some ⟨fb, 0, none⟩)] w1 fun e w' => e = .returned (.bool true) ∧ Below w1.heap.size w1 w') := fun w1 hb => by
          refine (HC.out w1 hb).mono ?_
          rintro e w' ⟨q1, q2⟩
          exact ⟨q1.of_yes HYes.out, q2⟩
        clear hs HC HNe
        generalize l[i].kind = k1 at *
        generalize ba l[i].name = s1 at *
        generalize l[i].n = n1 at *
        generalize l[i].arg.length = la1 at *
        generalize l[i].out.length = lo1 at *
        generalize m[i].kind = k2 at *
        generalize ba m[i].name = s2 at *
        generalize m[i].n = n2 at *
        generalize m[i].arg.length = la2 at *
        generalize m[i].out.length = lo2 at *
        go_wp2_with (go_at_call 57; refine (HCy.out _ (((Below.refl _ _).alloc (Nat.le_refl _) _).alloc (le_alloc _ _) _)).mono ?_; rintro e w3 ⟨rfl, HB⟩; have HB3 : Hid (Below w.heap.size w w3) := HR.out.1.trans (((((Below.refl _ _).alloc (Nat.le_refl _) _).alloc (le_alloc _ _) _).trans (HB.mono (Nat.le_trans (le_alloc _ _) (le_alloc _ _)))).mono HR.out.1.size); clear HB)
        go_roundw
        case rel => exact ⟨i + 1, by omega, by go_num, HB3.out, HQ.out HYes.out⟩
        case measure => simp [intOf]; omega
      · have HNy : Hid (¬ l[i] = m[i]) := hs
        have HCn : Hid (∀ w1, Below wr.heap.size wr w1 → Calls Try.prog 57 #[.agg #[.int .i64 l[i].kind, .string (ba l[i].name), .int .i64 l[i].n, .slice pa l[i].arg.length pb, .slice pc l[i].out.length pd], .agg #[.int .i64 m[i].kind, .string (ba m[i].name), .int .i64 m[i].n, .slice qa m[i].arg.length qb, .slice qc m[i].out.length qd], .pointer (some ⟨tb, 0, none⟩), .pointer (some ⟨fb, 0, none⟩)] w1 fun e w' => e = .returned (.bool false) ∧ Below w1.heap.size w1 w') := fun w1 hb => by
          refine (HC.out w1 hb).mono ?_
          rintro e w' ⟨q1, q2⟩
          exact ⟨q1.of_no HNy.out, q2⟩
        clear hs HC HNe
        generalize l[i].kind = k1 at *
        generalize ba l[i].name = s1 at *
        generalize l[i].n = n1 at *
        generalize l[i].arg.length = la1 at *
        generalize l[i].out.length = lo1 at *
        generalize m[i].kind = k2 at *
        generalize ba m[i].name = s2 at *
        generalize m[i].n = n2 at *
        generalize m[i].arg.length = la2 at *
        generalize m[i].out.length = lo2 at *
        go_wp2_with (go_at_call 57; refine (HCn.out _ (((Below.refl _ _).alloc (Nat.le_refl _) _).alloc (le_alloc _ _) _)).mono ?_; rintro e w3 ⟨rfl, HB⟩; have HB3 : Hid (Below w.heap.size w w3) := HR.out.1.trans (((((Below.refl _ _).alloc (Nat.le_refl _) _).alloc (le_alloc _ _) _).trans (HB.mono (Nat.le_trans (le_alloc _ _) (le_alloc _ _)))).mono HR.out.1.size); clear HB)
        go_ret
        exact ⟨.no (HNo.out HNy.out), HB3.out⟩
    · have he : i = l.length := by omega
      subst he
      have HE : Hid (l = m) := HEq.out fun j q1 q2 => HR.out.2 j q1 q2 q1
      have HB3 : Hid (Below w.heap.size w wr) := HR.out.1
      clear HR
      go_wp2
      go_ret
      exact ⟨.yes HE.out, HB3.out⟩
end
section
open Go.RowKit
set_option linter.unusedVariables false

theorem df_eq {f g : Df} : f = g ↔ f.id = g.id ∧ f.places = g.places := by
  constructor
  · rintro rfl; exact ⟨rfl, rfl⟩
  · obtain ⟨a, b⟩ := f
    obtain ⟨c, d⟩ := g
    rintro ⟨h1, h2⟩
    simp only at h1 h2
    rw [h1, h2]
set_option maxRecDepth 100000 in
set_option maxHeartbeats 400000 in
theorem MSame_any (P Q : Nat → Prop) (f g : Df) (a : Option Addr) (c : Nat) (b : Option Addr) (d : Nat) (w : World) (h1 : DfV w P f a c) (h2 : DfV w Q g b d) :
    Calls Try.prog 26 #[.agg #[.string (ba f.id), .slice a f.places.length c], .agg #[.string (ba g.id), .slice b g.places.length d]] w fun e w' => SameQ f g e ∧ Below w.heap.size w w' := by
  have HP : Hid (∀ w1 tb fb, Below w.heap.size w w1 → w1.cell? ⟨tb, 0, none⟩ = some (.func (.func 53) #[] #[]) → w1.cell? ⟨fb, 0, none⟩ = some (.func (.func 56) #[] #[.pointer (some ⟨tb, 0, none⟩)]) → Calls Try.prog 59 #[.slice a f.places.length c, .slice b g.places.length d, .func (.func 57) #[] #[.pointer (some ⟨tb, 0, none⟩), .pointer (some ⟨fb, 0, none⟩)]] w1 fun e w' => SameQ f.places g.places e ∧ Below w1.heap.size w1 w') := fun w1 tb fb hb q1 q2 => equalP_any P Q _ _ _ _ _ _ tb fb w1 (h1.places.kept (kept_below hb)) (h2.places.kept (kept_below hb)) q1 q2
  have HEq : Hid (f = g ↔ f.id = g.id ∧ f.places = g.places) := df_eq
  clear h1 h2
  by_cases ht : f.id = g.id
  · rw [← ht]
    have HEq2 : Hid (f = g ↔ f.places = g.places) := HEq.out.trans ⟨fun h => h.2, fun h => ⟨ht, h⟩⟩
    clear HEq ht
    generalize f.places.length = ln at *
    generalize g.places.length = mn at *
    generalize ba f.id = s at *
    obtain ⟨W, hW⟩ : ∃ W, W = ((((w.alloc (.cells #[.string s, .slice a ln c] 24)).alloc (.cells #[.string s, .slice b mn d] 24)).alloc (.cells #[.func (.func 53) #[] #[]] 84)).alloc (.cells #[.func (.func 56) #[] #[.pointer (some ⟨w.heap.size + 1 + 1, 0, none⟩)]] 85)) := ⟨_, rfl⟩
    have HW : Hid (Below w.heap.size w W ∧ W.cell? ⟨w.heap.size + 1 + 1, 0, none⟩ = some (.func (.func 53) #[] #[]) ∧ W.cell? ⟨w.heap.size + 1 + 1 + 1, 0, none⟩ = some (.func (.func 56) #[] #[.pointer (some ⟨w.heap.size + 1 + 1, 0, none⟩)])) := by
      rw [hW]
      refine ⟨((((Below.refl _ _).alloc (Nat.le_refl _) _).alloc (le_alloc _ _) _).alloc (Nat.le_trans (le_alloc _ _) (le_alloc _ _)) _).alloc (Nat.le_trans (Nat.le_trans (le_alloc _ _) (le_alloc _ _)) (le_alloc _ _)) _, ?_, ?_⟩
      · rw [cell_kept (heap_alloc_old _ _ (by rw [size_alloc, size_alloc, size_alloc]; omega))]
        have := heap_alloc_new ((w.alloc (.cells #[.string s, .slice a ln c] 24)).alloc (.cells #[.string s, .slice b mn d] 24)) (.cells #[.func (.func 53) #[] #[]] 84)
        rw [size_alloc, size_alloc] at this
        rw [cell_of_row _ _ _ _ 84 (0, 0) this]; rfl
      · have := heap_alloc_new (((w.alloc (.cells #[.string s, .slice a ln c] 24)).alloc (.cells #[.string s, .slice b mn d] 24)).alloc (.cells #[.func (.func 53) #[] #[]] 84)) (.cells #[.func (.func 56) #[] #[.pointer (some ⟨w.heap.size + 1 + 1, 0, none⟩)]] 85)
        rw [size_alloc, size_alloc, size_alloc] at this
        rw [cell_of_row _ _ _ _ 85 (0, 0) this]; rfl
    have HC : Hid (Calls Try.prog 59 #[.slice a ln c, .slice b mn d, .func (.func 57) #[] #[.pointer (some ⟨w.heap.size + 1 + 1, 0, none⟩), .pointer (some ⟨w.heap.size + 1 + 1 + 1, 0, none⟩)]] W fun e w' => SameQ f.places g.places e ∧ Below W.heap.size W w') := HP.out W _ _ HW.out.1 HW.out.2.1 HW.out.2.2
    rw [hW] at HC HW
    clear hW HP
    go_enter Try.func26, Try.ntmps26
    go_wp2_with (go_at_call 59; refine HC.out.mono ?_; rintro e w1 ⟨⟨bb, rfl, q1⟩, q2⟩; have H1 : Hid (bb = true ↔ f.places = g.places) := q1; have HB : Hid (Below w.heap.size w w1) := HW.out.1.trans (q2.mono HW.out.1.size); clear q1 q2)
    go_ret
    exact ⟨⟨_, rfl, H1.out.trans HEq2.out.symm⟩, HB.out⟩
  · have HNe : Hid (¬ f = g) := fun e => ht (HEq.out.1 e).1
    have ht2 : ((ba f.id).toList == (ba g.id).toList) = false := toList_ne ht
    clear HEq ht HP
    generalize f.places.length = ln at *
    generalize g.places.length = mn at *
    generalize ba f.id = s1 at *
    generalize ba g.id = s2 at *
    go_enter Try.func26, Try.ntmps26
    go_wp2_with fail
    go_ret
    exact ⟨.no HNe.out, ((((Below.refl _ _).alloc (Nat.le_refl _) _).alloc (le_alloc _ _) _).alloc (Nat.le_trans (le_alloc _ _) (le_alloc _ _)) _).alloc (Nat.le_trans (Nat.le_trans (le_alloc _ _) (le_alloc _ _)) (le_alloc _ _)) _⟩
/-- The law's example. -/
def smallD : Df := ⟨[112], [⟨1, [], 0, [], [⟨1, []⟩]⟩, ⟨2, [112, 97, 121], 2, [], [⟨2, []⟩]⟩, ⟨8, [], 0, [], []⟩]⟩
theorem small_ok : checkD smallD = 0 := by decide
theorem none_flow : checkD ⟨[112], []⟩ = 8 := by decide
theorem small_len : (defB smallD).length = 25 := by decide
def notYes : Tr := ⟨6, 0, [], [⟨3, 0, [], []⟩]⟩
theorem notYes_ok : checkM 16 notYes = 0 := by decide
theorem notYes_read : exprE [6, 3, 9] = .ok (notYes, [9]) := by rfl
theorem notYes_put : treeB 16 notYes = [6, 3] := by rfl
set_option maxRecDepth 100000 in
theorem Small_any (w : World) : Calls Try.prog 28 #[] w fun e w' => ∃ a c, e = .returned (.agg #[.string ⟨#[112]⟩, .slice a 3 c]) ∧ DfV w' (fun g => w.heap.size ≤ g) smallD a c ∧ Below w.heap.size w w' := by
  go_enter Try.func28, Try.ntmps28
  go_wp2
  obtain ⟨W, hW⟩ : ∃ W, W = ((((w.alloc (.cells #[.string ⟨#[112]⟩, .slice (some ⟨w.heap.size + 1 + 1 + 1, 0, none⟩) 3 3] 24)).alloc (.cells #[.int .i64 1, .slice none 0 0] 75)).alloc (.cells #[.int .i64 2, .slice none 0 0] 75)).alloc (.cells #[.int .i64 1, .string ⟨#[]⟩, .int .i64 0, .slice none 0 0, .slice (some ⟨w.heap.size + 1, 0, none⟩) 1 1, .int .i64 2, .string ⟨#[112, 97, 121]⟩, .int .i64 2, .slice none 0 0, .slice (some ⟨w.heap.size + 1 + 1, 0, none⟩) 1 1, .int .i64 8, .string ⟨#[]⟩, .int .i64 0, .slice none 0 0, .slice none 0 0] 57)) := ⟨_, rfl⟩
  rw [← hW]
  have hB : Below w.heap.size w W := by
    rw [hW]
    exact ((((Below.refl _ _).alloc (Nat.le_refl _) _).alloc (le_alloc _ _) _).alloc (Nat.le_trans (le_alloc _ _) (le_alloc _ _)) _).alloc (Nat.le_trans (Nat.le_trans (le_alloc _ _) (le_alloc _ _)) (le_alloc _ _)) _
  have r0 : W.heap[w.heap.size]? = some (.cells #[.string ⟨#[112]⟩, .slice (some ⟨w.heap.size + 1 + 1 + 1, 0, none⟩) 3 3] 24 (0, 0)) := by
    rw [hW, heap_alloc_old _ _ (by rw [size_alloc, size_alloc, size_alloc]; omega), heap_alloc_old _ _ (by rw [size_alloc, size_alloc]; omega), heap_alloc_old _ _ (by rw [size_alloc]; omega)]
    exact heap_alloc_new w _
  have r1 : W.heap[w.heap.size + 1]? = some (.cells #[.int .i64 1, .slice none 0 0] 75 (0, 0)) := by
    rw [hW, heap_alloc_old _ _ (by rw [size_alloc, size_alloc, size_alloc]; omega), heap_alloc_old _ _ (by rw [size_alloc, size_alloc]; omega)]
    have := heap_alloc_new (w.alloc (.cells #[.string ⟨#[112]⟩, .slice (some ⟨w.heap.size + 1 + 1 + 1, 0, none⟩) 3 3] 24)) (.cells #[.int .i64 1, .slice none 0 0] 75)
    rw [size_alloc] at this
    exact this
  have r2 : W.heap[w.heap.size + 1 + 1]? = some (.cells #[.int .i64 2, .slice none 0 0] 75 (0, 0)) := by
    rw [hW, heap_alloc_old _ _ (by rw [size_alloc, size_alloc, size_alloc]; omega)]
    have := heap_alloc_new ((w.alloc (.cells #[.string ⟨#[112]⟩, .slice (some ⟨w.heap.size + 1 + 1 + 1, 0, none⟩) 3 3] 24)).alloc (.cells #[.int .i64 1, .slice none 0 0] 75)) (.cells #[.int .i64 2, .slice none 0 0] 75)
    rw [size_alloc, size_alloc] at this
    exact this
  have r3 : W.heap[w.heap.size + 1 + 1 + 1]? = some (.cells #[.int .i64 1, .string ⟨#[]⟩, .int .i64 0, .slice none 0 0, .slice (some ⟨w.heap.size + 1, 0, none⟩) 1 1, .int .i64 2, .string ⟨#[112, 97, 121]⟩, .int .i64 2, .slice none 0 0, .slice (some ⟨w.heap.size + 1 + 1, 0, none⟩) 1 1, .int .i64 8, .string ⟨#[]⟩, .int .i64 0, .slice none 0 0, .slice none 0 0] 57 (0, 0)) := by
    have := heap_alloc_new (((w.alloc (.cells #[.string ⟨#[112]⟩, .slice (some ⟨w.heap.size + 1 + 1 + 1, 0, none⟩) 3 3] 24)).alloc (.cells #[.int .i64 1, .slice none 0 0] 75)).alloc (.cells #[.int .i64 2, .slice none 0 0] 75)) (.cells #[.int .i64 1, .string ⟨#[]⟩, .int .i64 0, .slice none 0 0, .slice (some ⟨w.heap.size + 1, 0, none⟩) 1 1, .int .i64 2, .string ⟨#[112, 97, 121]⟩, .int .i64 2, .slice none 0 0, .slice (some ⟨w.heap.size + 1 + 1, 0, none⟩) 1 1, .int .i64 8, .string ⟨#[]⟩, .int .i64 0, .slice none 0 0, .slice none 0 0] 57)
    rw [size_alloc, size_alloc, size_alloc] at this
    rw [hW]; exact this
  have k0 : W.cell? ⟨w.heap.size, 0, none⟩ = some (.string ⟨#[112]⟩) := by rw [cell_of_row _ _ _ _ 24 (0, 0) r0]; rfl
  have k1 : W.cell? ⟨w.heap.size, 1, none⟩ = some (.slice (some ⟨w.heap.size + 1 + 1 + 1, 0, none⟩) 3 3) := by rw [cell_of_row _ _ _ _ 24 (0, 0) r0]; rfl
  have hD : DfV W (fun g => w.heap.size ≤ g) smallD (some ⟨w.heap.size + 1 + 1 + 1, 0, none⟩) 3 := by
    have f1 : FlsV W (fun g => w.heap.size ≤ g) (.slice (some ⟨w.heap.size + 1, 0, none⟩) 1 1) [⟨1, []⟩] := ⟨_, 1, rfl, Nat.le_refl _, by decide, fun i hi => by
      obtain rfl : i = 0 := by simpa using hi
      exact ⟨w.heap.size + 1, 0, none, 0, rfl, by omega, by rw [cell_of_row _ _ _ _ 75 (0, 0) r1]; rfl, by rw [cell_of_row _ _ _ _ 75 (0, 0) r1]; rfl, ExsV.nil _ _, by decide, by decide⟩⟩
    have f2 : FlsV W (fun g => w.heap.size ≤ g) (.slice (some ⟨w.heap.size + 1 + 1, 0, none⟩) 1 1) [⟨2, []⟩] := ⟨_, 1, rfl, Nat.le_refl _, by decide, fun i hi => by
      obtain rfl : i = 0 := by simpa using hi
      exact ⟨w.heap.size + 1 + 1, 0, none, 0, rfl, by omega, by rw [cell_of_row _ _ _ _ 75 (0, 0) r2]; rfl, by rw [cell_of_row _ _ _ _ 75 (0, 0) r2]; rfl, ExsV.nil _ _, by decide, by decide⟩⟩
    have hc : ∀ o, W.cell? ⟨w.heap.size + 1 + 1 + 1, o, none⟩ = _ := fun o => cell_of_row _ _ _ _ 57 (0, 0) r3
    refine ⟨by decide, _, 3, rfl, Nat.le_refl _, by decide, fun i hi => ?_⟩
    have : i = 0 ∨ i = 1 ∨ i = 2 := by simp [smallD] at hi; omega
    rcases this with rfl | rfl | rfl
    · exact ⟨w.heap.size + 1 + 1 + 1, 0, none, 0, _, 1, rfl, by omega, by rw [hc]; rfl, by rw [hc]; rfl, by rw [hc]; rfl, by rw [hc]; rfl, by rw [hc]; rfl, ⟨by decide, by decide⟩, ⟨by decide, by decide⟩, by decide, ExsV.nil _ _, f1⟩
    · exact ⟨w.heap.size + 1 + 1 + 1, 0, none, 0, _, 1, rfl, by omega, by rw [hc]; rfl, by rw [hc]; rfl, by rw [hc]; rfl, by rw [hc]; rfl, by rw [hc]; rfl, ⟨by decide, by decide⟩, ⟨by decide, by decide⟩, by decide, ExsV.nil _ _, f2⟩
    · exact ⟨w.heap.size + 1 + 1 + 1, 0, none, 0, none, 0, rfl, by omega, by rw [hc]; rfl, by rw [hc]; rfl, by rw [hc]; rfl, by rw [hc]; rfl, by rw [hc]; rfl, ⟨by decide, by decide⟩, ⟨by decide, by decide⟩, by decide, ExsV.nil _ _, FlsV.nil _ _⟩
  refine bodyPost_ret (v := .agg #[.string ⟨#[112]⟩, .slice (some ⟨w.heap.size + 1 + 1 + 1, 0, none⟩) 3 3]) (by simp [results, Try.results28, go_sem, k0, k1]) rfl ⟨_, _, rfl, hD, hB⟩
end
end Go.Proofs.Ytjafjheffbbkmaa

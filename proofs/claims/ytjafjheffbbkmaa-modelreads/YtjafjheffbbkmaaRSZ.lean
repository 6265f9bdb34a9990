/-
  The document's trees, samePlace, Same: contracts.
-/
import Derived.Test.YtjafjheffbbkmaaSmZ
import Derived.Test.YtjafjheffbbkmaaRSame
import Derived.Deep.RegionHeld3
namespace Go.Proofs.Ytjafjheffbbkmaa
section
open Go.RowKit
set_option linter.unusedVariables false

set_option maxRecDepth 100000 in
set_option maxHeartbeats 800000 in
theorem rtrees_any (P Q : Nat → Prop) (l m : List Tr) (a : Option Addr) (c : Nat) (b : Option Addr) (d : Nat) (w : World) (h1 : ExsV w P (.slice a l.length c) l) (h2 : ExsV w Q (.slice b m.length d) m) :
    Calls Try.prog 85 #[.slice a l.length c, .slice b m.length d] w fun e w' => SameQ l m e ∧ Below w.heap.size w w' := by
  obtain ⟨hc1, hl1⟩ := h1.cap
  obtain ⟨hc2, hl2⟩ := h2.cap
  by_cases hlen : l.length = m.length
  case neg =>
    have HE : Hid (¬ l = m) := fun e => hlen (by rw [e])
    have hne : ¬ (l.length : Int) = m.length := by omega
    generalize l.length = ln at *
    generalize m.length = mn at *
    go_enter Try.func85, Try.ntmps85
    go_wp2
    go_ret
    exact ⟨.no HE.out, Below.refl _ _⟩
  have HK1 : Hid (∀ i (h : i < l.length), ∃ b o ka kc, KidAt w P a i l[i] b o ka kc) := fun i h => by
    obtain ⟨a', c', e, _, _, q⟩ := h1.form
    simp only [Value.slice.injEq] at e
    obtain ⟨b, o, ka, kc, q⟩ := q i h
    rw [← e.1, show l.getD i zeroT = l[i] by rw [List.getD_eq_getElem?_getD, List.getElem?_eq_getElem h]; rfl] at q
    exact ⟨b, o, ka, kc, q⟩
  have HK2 : Hid (∀ i (h : i < m.length), ∃ b' o ka kc, KidAt w Q b i m[i] b' o ka kc) := fun i h => by
    obtain ⟨a', c', e, _, _, q⟩ := h2.form
    simp only [Value.slice.injEq] at e
    obtain ⟨b, o, ka, kc, q⟩ := q i h
    rw [← e.1, show m.getD i zeroT = m[i] by rw [List.getD_eq_getElem?_getD, List.getElem?_eq_getElem h]; rfl] at q
    exact ⟨b, o, ka, kc, q⟩
  have HEq : Hid ((∀ j (h1 : j < l.length) (h2 : j < m.length), l[j] = m[j]) → l = m) := fun h => list_same hlen h
  have HNe : Hid (∀ j (h1 : j < l.length) (h2 : j < m.length), ¬ l[j] = m[j] → ¬ l = m) := fun j h1 h2 h e => h (by subst e; rfl)
  have HLen : Hid (l.length = m.length) := hlen
  rw [← hlen] at hc2 ⊢
  clear h1 h2 hlen
  go_enter Try.func85, Try.ntmps85
  go_wp2
  go_loopw [5] (fun v wr => ∃ (i : Nat), i ≤ l.length ∧ v = .int .i64 i ∧ Hid (Below w.heap.size w wr ∧ ∀ j (h1 : j < l.length) (h2 : j < m.length), j < i → l[j] = m[j])) (fun v _ => l.length - (intOf v).toNat)
  case atStart => exact ⟨0, Nat.zero_le _, rfl, Below.refl _ _, fun j _ _ hj => absurd hj (Nat.not_lt_zero _)⟩
  case round =>
    obtain ⟨i, hi, rfl, HR⟩ := hrel
    by_cases hlt : i < l.length
    · have hlt2 : i < m.length := by rw [← HLen.out]; exact hlt
      obtain ⟨g1, o1, ka, kc, hKA⟩ := HK1.out i hlt
      obtain ⟨g2, o2, kb, kd, hKB⟩ := HK2.out i hlt2
      have HKA : Hid (KidAt wr P a i l[i] g1 o1 ka kc) := hKA.below HR.out.1
      have HKB : Hid (KidAt wr Q b i m[i] g2 o2 kb kd) := hKB.below HR.out.1
      obtain ⟨rfl, x0, x1, x2, x3, _⟩ := HKA.out
      obtain ⟨rfl, y0, y1, y2, y3, _⟩ := HKB.out
      have HC : Hid (∀ w1, Below wr.heap.size wr w1 → Calls Try.prog 16 #[.agg #[.int .i64 l[i].kind, .int .i64 l[i].n, .string (ba l[i].name), .slice ka l[i].kids.length kc], .agg #[.int .i64 m[i].kind, .int .i64 m[i].n, .string (ba m[i].name), .slice kb m[i].kids.length kd]] w1 fun e w' => SameQ l[i] m[i] e ∧ Below w1.heap.size w1 w') := fun w1 hb => by
        refine (rsame_any l[i] P Q m[i] _ _ w1 (HKA.out.tre.below hb) (HKB.out.tre.below hb)).mono ?_
        rintro e w' ⟨⟨bb, q1, q2⟩, q3⟩
        exact ⟨⟨bb, q1, q2⟩, q3⟩
      clear hKA hKB HKA HKB
      have HQ : Hid (l[i] = m[i] → ∀ j (h1 : j < l.length) (h2 : j < m.length), j < i + 1 → l[j] = m[j]) := fun h j q1 q2 hj => by
        rcases Nat.lt_succ_iff_lt_or_eq.1 hj with h3 | h3
        · exact HR.out.2 j q1 q2 h3
        · subst h3; exact h
      have HNo : Hid (¬ l[i] = m[i] → ¬ l = m) := HNe.out i hlt hlt2
      have hir : (i : Int) < l.length := by omega
      by_cases hs : l[i] = m[i]
      · have HYes : Hid (l[i] = m[i]) := hs
        have HCy : Hid (∀ w1, Below wr.heap.size wr w1 → Calls Try.prog 16 #[.agg #[.int .i64 l[i].kind, .int .i64 l[i].n, .string (ba l[i].name), .slice ka l[i].kids.length kc], .agg #[.int .i64 m[i].kind, .int .i64 m[i].n, .string (ba m[i].name), .slice kb m[i].kids.length kd]] w1 fun e w' => e = .returned (.bool true) ∧ Below w1.heap.size w1 w') := fun w1 hb => by
          refine (HC.out w1 hb).mono ?_
          rintro e w' ⟨q1, q2⟩
          exact ⟨q1.of_yes HYes.out, q2⟩
        clear hs HC HNe
        generalize l[i].kind = k1 at *
        generalize l[i].n = n1 at *
        generalize ba l[i].name = s1 at *
        generalize l[i].kids.length = l1 at *
        generalize m[i].kind = k2 at *
        generalize m[i].n = n2 at *
        generalize ba m[i].name = s2 at *
        generalize m[i].kids.length = l2 at *
        have HX : Hid (∀ w', Below wr.heap.size wr.drew w' → w'.cell? ⟨g1, o1 + i * 4, none⟩ = some (.int .i64 k1) ∧ w'.cell? ⟨g1, o1 + i * 4 + 1, none⟩ = some (.int .i64 n1) ∧ w'.cell? ⟨g1, o1 + i * 4 + 2, none⟩ = some (.string s1) ∧ w'.cell? ⟨g1, o1 + i * 4 + 3, none⟩ = some (.slice ka l1 kc) ∧ w'.cell? ⟨g2, o2 + i * 4, none⟩ = some (.int .i64 k2) ∧ w'.cell? ⟨g2, o2 + i * 4 + 1, none⟩ = some (.int .i64 n2) ∧ w'.cell? ⟨g2, o2 + i * 4 + 2, none⟩ = some (.string s2) ∧ w'.cell? ⟨g2, o2 + i * 4 + 3, none⟩ = some (.slice kb l2 kd)) := fun w' hB => by
          have hc : ∀ g o v, wr.cell? ⟨g, o, none⟩ = some v → w'.cell? ⟨g, o, none⟩ = some v := fun g o v h => (hB.cell (p := ⟨g, o, none⟩) (World.block_lt_of_cell? _ _ h)).trans h
          exact ⟨hc _ _ _ x0, hc _ _ _ x1, hc _ _ _ x2, hc _ _ _ x3, hc _ _ _ y0, hc _ _ _ y1, hc _ _ _ y2, hc _ _ _ y3⟩
        go_wp2_with fail
        go_region_held3 (fun w' => w'.cell? ⟨g1, o1 + i * 4, none⟩ = some (.int .i64 k1) ∧ w'.cell? ⟨g1, o1 + i * 4 + 1, none⟩ = some (.int .i64 n1) ∧ w'.cell? ⟨g1, o1 + i * 4 + 2, none⟩ = some (.string s1) ∧ w'.cell? ⟨g1, o1 + i * 4 + 3, none⟩ = some (.slice ka l1 kc) ∧ w'.cell? ⟨g2, o2 + i * 4, none⟩ = some (.int .i64 k2) ∧ w'.cell? ⟨g2, o2 + i * 4 + 1, none⟩ = some (.int .i64 n2) ∧ w'.cell? ⟨g2, o2 + i * 4 + 2, none⟩ = some (.string s2) ∧ w'.cell? ⟨g2, o2 + i * 4 + 3, none⟩ = some (.slice kb l2 kd)) (go_keep) (first
          | (go_at_call 16; refine (HCy.out _ (Below.drew (Below.refl _ _))).mono ?_; rintro e w3 ⟨rfl, HB⟩; have HB3 : Hid (Below w.heap.size w w3) := (Below.drew HR.out.1).trans (HB.mono HR.out.1.size); obtain ⟨z0, z1, z2, z3, z4, z5, z6, z7⟩ := HX.out _ HB; clear HB))
        go_wp2_with fail
        go_roundw
        case rel => exact ⟨i + 1, by omega, by go_num, HB3.out, HQ.out HYes.out⟩
        case measure => simp [intOf]; omega
      · have HNy : Hid (¬ l[i] = m[i]) := hs
        have HCn : Hid (∀ w1, Below wr.heap.size wr w1 → Calls Try.prog 16 #[.agg #[.int .i64 l[i].kind, .int .i64 l[i].n, .string (ba l[i].name), .slice ka l[i].kids.length kc], .agg #[.int .i64 m[i].kind, .int .i64 m[i].n, .string (ba m[i].name), .slice kb m[i].kids.length kd]] w1 fun e w' => e = .returned (.bool false) ∧ Below w1.heap.size w1 w') := fun w1 hb => by
          refine (HC.out w1 hb).mono ?_
          rintro e w' ⟨q1, q2⟩
          exact ⟨q1.of_no HNy.out, q2⟩
        clear hs HC HNe
        generalize l[i].kind = k1 at *
        generalize l[i].n = n1 at *
        generalize ba l[i].name = s1 at *
        generalize l[i].kids.length = l1 at *
        generalize m[i].kind = k2 at *
        generalize m[i].n = n2 at *
        generalize ba m[i].name = s2 at *
        generalize m[i].kids.length = l2 at *
        have HX : Hid (∀ w', Below wr.heap.size wr.drew w' → w'.cell? ⟨g1, o1 + i * 4, none⟩ = some (.int .i64 k1) ∧ w'.cell? ⟨g1, o1 + i * 4 + 1, none⟩ = some (.int .i64 n1) ∧ w'.cell? ⟨g1, o1 + i * 4 + 2, none⟩ = some (.string s1) ∧ w'.cell? ⟨g1, o1 + i * 4 + 3, none⟩ = some (.slice ka l1 kc) ∧ w'.cell? ⟨g2, o2 + i * 4, none⟩ = some (.int .i64 k2) ∧ w'.cell? ⟨g2, o2 + i * 4 + 1, none⟩ = some (.int .i64 n2) ∧ w'.cell? ⟨g2, o2 + i * 4 + 2, none⟩ = some (.string s2) ∧ w'.cell? ⟨g2, o2 + i * 4 + 3, none⟩ = some (.slice kb l2 kd)) := fun w' hB => by
          have hc : ∀ g o v, wr.cell? ⟨g, o, none⟩ = some v → w'.cell? ⟨g, o, none⟩ = some v := fun g o v h => (hB.cell (p := ⟨g, o, none⟩) (World.block_lt_of_cell? _ _ h)).trans h
          exact ⟨hc _ _ _ x0, hc _ _ _ x1, hc _ _ _ x2, hc _ _ _ x3, hc _ _ _ y0, hc _ _ _ y1, hc _ _ _ y2, hc _ _ _ y3⟩
        go_wp2_with fail
        go_region_held3 (fun w' => w'.cell? ⟨g1, o1 + i * 4, none⟩ = some (.int .i64 k1) ∧ w'.cell? ⟨g1, o1 + i * 4 + 1, none⟩ = some (.int .i64 n1) ∧ w'.cell? ⟨g1, o1 + i * 4 + 2, none⟩ = some (.string s1) ∧ w'.cell? ⟨g1, o1 + i * 4 + 3, none⟩ = some (.slice ka l1 kc) ∧ w'.cell? ⟨g2, o2 + i * 4, none⟩ = some (.int .i64 k2) ∧ w'.cell? ⟨g2, o2 + i * 4 + 1, none⟩ = some (.int .i64 n2) ∧ w'.cell? ⟨g2, o2 + i * 4 + 2, none⟩ = some (.string s2) ∧ w'.cell? ⟨g2, o2 + i * 4 + 3, none⟩ = some (.slice kb l2 kd)) (go_keep) (first
          | (go_at_call 16; refine (HCn.out _ (Below.drew (Below.refl _ _))).mono ?_; rintro e w3 ⟨rfl, HB⟩; have HB3 : Hid (Below w.heap.size w w3) := (Below.drew HR.out.1).trans (HB.mono HR.out.1.size); obtain ⟨z0, z1, z2, z3, z4, z5, z6, z7⟩ := HX.out _ HB; clear HB))
        go_wp2_with fail
        go_ret
        exact ⟨.no (HNo.out HNy.out), HB3.out⟩
    · have he : i = l.length := by omega
      subst he
      have HE : Hid (l = m) := HEq.out fun j q1 q2 => HR.out.2 j q1 q2 q1
      have HB3 : Hid (Below w.heap.size w wr) := HR.out.1
      clear HR
      go_wp2
      go_ret
      exact ⟨.yes HE.out, HB3.out⟩
end
section
open Go.RowKit
set_option linter.unusedVariables false

set_option maxRecDepth 100000 in
set_option maxHeartbeats 1000000 in
theorem samePlace_any (P Q : Nat → Prop) (f g : Pl) (aa : Option Addr) (ca : Nat) (ao : Option Addr) (co : Nat) (ba2 : Option Addr) (da : Nat) (bo : Option Addr) (do2 : Nat) (w : World) (h1 : PlV w P f aa ca ao co) (h2 : PlV w Q g ba2 da bo do2) :
    Calls Try.prog 52 #[.agg #[.int .i64 f.kind, .string (ba f.name), .int .i64 f.n, .slice aa f.arg.length ca, .slice ao f.out.length co], .agg #[.int .i64 g.kind, .string (ba g.name), .int .i64 g.n, .slice ba2 g.arg.length da, .slice bo g.out.length do2]] w fun e w' => SameQ f g e ∧ Below w.heap.size w w' := by
  obtain ⟨hco1, hlo1⟩ := h1.out.cap
  obtain ⟨hco2, hlo2⟩ := h2.out.cap
  have HT0 : Hid (∀ w1, Below w.heap.size w w1 → Calls Try.prog 85 #[.slice aa f.arg.length ca, .slice ba2 g.arg.length da] w1 fun e w' => SameQ f.arg g.arg e ∧ Below w1.heap.size w1 w') := fun w1 hb => rtrees_any P Q _ _ _ _ _ _ w1 (h1.arg.kept (kept_below hb)) (h2.arg.kept (kept_below hb))
  have HK1 : Hid (∀ i (h : i < f.out.length) wr, Below w.heap.size w wr → ∃ b o ka kc, ao = some ⟨b, o, none⟩ ∧ FlAt wr (fun _ => True) b (o + i * 2) f.out[i] ka kc) := fun i h wr hb => by
    obtain ⟨b, o, ka, kc, e, _, q⟩ := (h1.out.kept (w' := wr) (Q := fun _ => True) fun g _ hl => ⟨hb.block g hl, trivial⟩).at i h
    rw [getD_memF h] at q
    exact ⟨b, o, ka, kc, e, q⟩
  have HK2 : Hid (∀ i (h : i < g.out.length) wr, Below w.heap.size w wr → ∃ b o ka kc, bo = some ⟨b, o, none⟩ ∧ FlAt wr (fun _ => True) b (o + i * 2) g.out[i] ka kc) := fun i h wr hb => by
    obtain ⟨b, o, ka, kc, e, _, q⟩ := (h2.out.kept (w' := wr) (Q := fun _ => True) fun g _ hl => ⟨hb.block g hl, trivial⟩).at i h
    rw [getD_memF h] at q
    exact ⟨b, o, ka, kc, e, q⟩
  have HEq : Hid (f = g ↔ f.kind = g.kind ∧ f.name = g.name ∧ f.n = g.n ∧ f.arg = g.arg ∧ f.out = g.out) := pl_eq
  clear h1 h2
  by_cases e1 : f.kind = g.kind
  case neg =>
    have HNe : Hid (¬ f = g) := fun e => e1 (HEq.out.1 e).1
    have e1' : (f.kind != g.kind) = true := by simpa using e1
    clear HEq e1 HT0 HK1 HK2
    generalize f.kind = k1 at *
    generalize g.kind = k2 at *
    generalize ba f.name = s1 at *
    generalize ba g.name = s2 at *
    generalize f.n = n1 at *
    generalize g.n = n2 at *
    generalize f.arg.length = la1 at *
    generalize g.arg.length = la2 at *
    generalize f.out.length = lo1 at *
    generalize g.out.length = lo2 at *
    go_enter Try.func52, Try.ntmps52
    go_wp2_with (fail)
    go_ret
    exact ⟨.no HNe.out, ((Below.refl _ _).alloc (Nat.le_refl _) _).alloc (le_alloc _ _) _⟩
  rw [← e1]
  by_cases e2 : f.name = g.name
  case neg =>
    have HNe : Hid (¬ f = g) := fun e => e2 (HEq.out.1 e).2.1
    have e2' : ((ba f.name).toList == (ba g.name).toList) = false := toList_ne e2
    clear HEq e2 HT0 HK1 HK2 e1
    generalize f.kind = k1 at *
    generalize ba f.name = s1 at *
    generalize ba g.name = s2 at *
    generalize f.n = n1 at *
    generalize g.n = n2 at *
    generalize f.arg.length = la1 at *
    generalize g.arg.length = la2 at *
    generalize f.out.length = lo1 at *
    generalize g.out.length = lo2 at *
    go_enter Try.func52, Try.ntmps52
    go_wp2_with (fail)
    go_ret
    exact ⟨.no HNe.out, ((Below.refl _ _).alloc (Nat.le_refl _) _).alloc (le_alloc _ _) _⟩
  rw [← e2]
  by_cases e3 : f.n = g.n
  case neg =>
    have HNe : Hid (¬ f = g) := fun e => e3 (HEq.out.1 e).2.2.1
    have e3' : (f.n != g.n) = true := by simpa using e3
    clear HEq e3 HT0 HK1 HK2 e1 e2
    generalize f.kind = k1 at *
    generalize ba f.name = s1 at *
    generalize f.n = n1 at *
    generalize g.n = n2 at *
    generalize f.arg.length = la1 at *
    generalize g.arg.length = la2 at *
    generalize f.out.length = lo1 at *
    generalize g.out.length = lo2 at *
    go_enter Try.func52, Try.ntmps52
    go_wp2_with (fail)
    go_ret
    exact ⟨.no HNe.out, ((Below.refl _ _).alloc (Nat.le_refl _) _).alloc (le_alloc _ _) _⟩
  rw [← e3]
  by_cases e4 : f.arg = g.arg
  case neg =>
    have HNe : Hid (¬ f = g) := fun e => e4 (HEq.out.1 e).2.2.2.1
    have HT : Hid (∀ w1, Below w.heap.size w w1 → Calls Try.prog 85 #[.slice aa f.arg.length ca, .slice ba2 g.arg.length da] w1 fun e w' => e = .returned (.bool false) ∧ Below w1.heap.size w1 w') := fun w1 hb => by
      refine (HT0.out w1 hb).mono ?_
      rintro e w' ⟨q1, q2⟩
      exact ⟨q1.of_no e4, q2⟩
    clear HEq e4 HT0 HK1 HK2 e1 e2 e3
    generalize f.kind = k1 at *
    generalize ba f.name = s1 at *
    generalize f.n = n1 at *
    generalize f.arg.length = la1 at *
    generalize g.arg.length = la2 at *
    generalize f.out.length = lo1 at *
    generalize g.out.length = lo2 at *
    go_enter Try.func52, Try.ntmps52
    go_wp2_with (go_at_call 85; refine (HT.out _ (((Below.refl _ _).alloc (Nat.le_refl _) _).alloc (le_alloc _ _) _)).mono ?_; rintro e w1 ⟨rfl, q2⟩; have HB : Hid (Below w.heap.size w w1) := (((Below.refl _ _).alloc (Nat.le_refl _) _).alloc (le_alloc _ _) _).trans (q2.mono (Nat.le_trans (le_alloc _ _) (le_alloc _ _))); clear q2)
    go_ret
    exact ⟨.no HNe.out, HB.out⟩
  have HT : Hid (∀ w1, Below w.heap.size w w1 → Calls Try.prog 85 #[.slice aa f.arg.length ca, .slice ba2 g.arg.length da] w1 fun e w' => e = .returned (.bool true) ∧ Below w1.heap.size w1 w') := fun w1 hb => by
    refine (HT0.out w1 hb).mono ?_
    rintro e w' ⟨q1, q2⟩
    exact ⟨q1.of_yes e4, q2⟩
  by_cases e5 : f.out.length = g.out.length
  case neg =>
    have HNe : Hid (¬ f = g) := fun e => e5 (by rw [(HEq.out.1 e).2.2.2.2])
    have e5' : ¬ (f.out.length : Int) = g.out.length := by omega
    clear HEq e4 HT0 HK1 HK2 e1 e2 e3
    generalize f.kind = k1 at *
    generalize ba f.name = s1 at *
    generalize f.n = n1 at *
    generalize f.arg.length = la1 at *
    generalize g.arg.length = la2 at *
    generalize f.out.length = lo1 at *
    generalize g.out.length = lo2 at *
    go_enter Try.func52, Try.ntmps52
    go_wp2_with (go_at_call 85; refine (HT.out _ (((Below.refl _ _).alloc (Nat.le_refl _) _).alloc (le_alloc _ _) _)).mono ?_; rintro e w1 ⟨rfl, q2⟩; have HB : Hid (Below w.heap.size w w1) := (((Below.refl _ _).alloc (Nat.le_refl _) _).alloc (le_alloc _ _) _).trans (q2.mono (Nat.le_trans (le_alloc _ _) (le_alloc _ _))); obtain ⟨c0, c1, c2, c3, c4, c5⟩ := ((Cell5.new w (.int .i64 k1) (.string s1) (.int .i64 n1) (.slice aa la1 ca) (.slice ao lo1 co) 57).below ((Below.refl _ _).alloc (Nat.le_refl _) (.cells #[.int .i64 k1, .string s1, .int .i64 n1, .slice ba2 la2 da, .slice bo lo2 do2] 57))).below q2; obtain ⟨d0, d1, d2, d3, d4, d5⟩ := (cell5_second w (.cells #[.int .i64 k1, .string s1, .int .i64 n1, .slice aa la1 ca, .slice ao lo1 co] 57) (.int .i64 k1) (.string s1) (.int .i64 n1) (.slice ba2 la2 da) (.slice bo lo2 do2) 57).below q2; clear q2)
    go_ret
    exact ⟨.no HNe.out, HB.out⟩
  have HOut : Hid ((∀ j (h1 : j < f.out.length) (h2 : j < g.out.length), f.out[j] = g.out[j]) → f = g) := fun h => HEq.out.2 ⟨e1, e2, e3, e4, list_same e5 h⟩
  have HNo : Hid (∀ j (h1 : j < f.out.length) (h2 : j < g.out.length), ¬ f.out[j] = g.out[j] → ¬ f = g) := fun j h1 h2 h e => h (by subst e; rfl)
  have HLen : Hid (f.out.length = g.out.length) := e5
  rw [← e5] at hco2 ⊢
  clear HEq e4 HT0 e1 e2 e3 e5
  generalize f.kind = k1 at *
  generalize ba f.name = s1 at *
  generalize f.n = n1 at *
  generalize f.arg.length = la1 at *
  generalize g.arg.length = la2 at *
  go_enter Try.func52, Try.ntmps52
  go_wp2_with (go_at_call 85; refine (HT.out _ (((Below.refl _ _).alloc (Nat.le_refl _) _).alloc (le_alloc _ _) _)).mono ?_; rintro e w1 ⟨rfl, q2⟩; have HB : Hid (Below w.heap.size w w1) := (((Below.refl _ _).alloc (Nat.le_refl _) _).alloc (le_alloc _ _) _).trans (q2.mono (Nat.le_trans (le_alloc _ _) (le_alloc _ _))); have HC : Hid (Cell5 w1 w.heap.size (.int .i64 k1) (.string s1) (.int .i64 n1) (.slice aa la1 ca) (.slice ao f.out.length co) ∧ Cell5 w1 (w.heap.size + 1) (.int .i64 k1) (.string s1) (.int .i64 n1) (.slice ba2 la2 da) (.slice bo f.out.length do2)) := ⟨((Cell5.new w (.int .i64 k1) (.string s1) (.int .i64 n1) (.slice aa la1 ca) (.slice ao f.out.length co) 57).below ((Below.refl _ _).alloc (Nat.le_refl _) _)).below q2, (cell5_second w _ _ _ _ _ _ 57).below q2⟩; obtain ⟨c0, c1, c2, c3, c4, c5⟩ := HC.out.1; obtain ⟨d0, d1, d2, d3, d4, d5⟩ := HC.out.2; clear q2)
  clear c0 c1 c2 c3 c4 c5 d0 d1 d2 d3 d4 d5
  go_loopw [5] (fun v wr => ∃ (i : Nat), i ≤ f.out.length ∧ v = .int .i64 i ∧ Hid (Below w1.heap.size w1 wr ∧ ∀ j (h1 : j < f.out.length) (h2 : j < g.out.length), j < i → f.out[j] = g.out[j])) (fun v _ => f.out.length - (intOf v).toNat)
  case atStart => exact ⟨0, Nat.zero_le _, rfl, Below.refl _ _, fun j _ _ hj => absurd hj (Nat.not_lt_zero _)⟩
  case round =>
    obtain ⟨i, hi, rfl, HR⟩ := hrel
    have HBw : Hid (Below w.heap.size w wr) := HB.out.trans (HR.out.1.mono HB.out.size)
    obtain ⟨c0, c1, c2, c3, c4, c5⟩ := HC.out.1.below HR.out.1
    obtain ⟨d0, d1, d2, d3, d4, d5⟩ := HC.out.2.below HR.out.1
    have hlc := World.block_lt_of_cell? _ _ c0
    have hld := World.block_lt_of_cell? _ _ d0
    by_cases hlt : i < f.out.length
    · have hlt2 : i < g.out.length := by rw [← HLen.out]; exact hlt
      obtain ⟨g1, o1, ka, kc, rfl, hKA⟩ := HK1.out i hlt wr HBw.out
      obtain ⟨g2, o2, kb, kd, rfl, hKB⟩ := HK2.out i hlt2 wr HBw.out
      obtain ⟨x0, x1, hE1, _⟩ := hKA
      obtain ⟨y0, y1, hE2, _⟩ := hKB
      have HCi : Hid (∀ w2, Below wr.heap.size wr w2 → Calls Try.prog 85 #[.slice ka f.out[i].ifs.length kc, .slice kb g.out[i].ifs.length kd] w2 fun e w' => SameQ f.out[i].ifs g.out[i].ifs e ∧ Below w2.heap.size w2 w') := fun w2 hb => rtrees_any _ _ _ _ _ _ _ _ w2 (hE1.kept (kept_below hb)) (hE2.kept (kept_below hb))
      have HQ : Hid (f.out[i] = g.out[i] → ∀ j (h1 : j < f.out.length) (h2 : j < g.out.length), j < i + 1 → f.out[j] = g.out[j]) := fun h j q1 q2 hj => by
        rcases Nat.lt_succ_iff_lt_or_eq.1 hj with h3 | h3
        · exact HR.out.2 j q1 q2 h3
        · subst h3; exact h
      have HN2 : Hid (¬ f.out[i] = g.out[i] → ¬ f = g) := HNo.out i hlt hlt2
      have HFe : Hid (f.out[i] = g.out[i] ↔ f.out[i].to = g.out[i].to ∧ f.out[i].ifs = g.out[i].ifs) := fl_eq
      have hir : (i : Int) < f.out.length := by omega
      clear hE1 hE2 HNo
      by_cases ht : f.out[i].to = g.out[i].to
      case neg =>
        have HNe : Hid (¬ f = g) := HN2.out fun e => ht (HFe.out.1 e).1
        have ht2 : (f.out[i].to != g.out[i].to) = true := by simpa using ht
        clear HFe HN2 HQ HCi ht
        generalize f.out[i].to = t1 at *
        generalize g.out[i].to = t2 at *
        generalize f.out[i].ifs.length = l1 at *
        generalize g.out[i].ifs.length = l2 at *
        go_wp2_with fail
        go_region
        all_goals (
          go_wp2_with fail
          go_ret
          exact ⟨.no HNe.out, by first | exact HBw.out.drew | exact HBw.out⟩)
      rw [← ht] at y0
      by_cases hs : f.out[i].ifs = g.out[i].ifs
      · have HYes : Hid (f.out[i] = g.out[i]) := HFe.out.2 ⟨ht, hs⟩
        have hs' : Hid (f.out[i].ifs = g.out[i].ifs) := hs
        have HCy : Hid (∀ w2, Below wr.heap.size wr w2 → Calls Try.prog 85 #[.slice ka f.out[i].ifs.length kc, .slice kb g.out[i].ifs.length kd] w2 fun e w' => e = .returned (.bool true) ∧ Below w2.heap.size w2 w') := fun w2 hb => by
          refine (HCi.out w2 hb).mono ?_
          rintro e w' ⟨q1, q2⟩
          exact ⟨q1.of_yes hs'.out, q2⟩

        clear hs ht HCi HFe
        generalize f.out[i].ifs.length = l1 at *
        generalize g.out[i].ifs.length = l2 at *
        generalize f.out[i].to = t1 at *
        have HX : Hid (∀ w', Below wr.heap.size wr.drew w' → w'.cell? ⟨w.heap.size, 4, none⟩ = some (.slice (some ⟨g1, o1, none⟩) f.out.length co) ∧ w'.cell? ⟨g1, o1 + i * 2, none⟩ = some (.int .i64 t1) ∧ w'.cell? ⟨g1, o1 + i * 2 + 1, none⟩ = some (.slice ka l1 kc) ∧ w'.cell? ⟨w.heap.size + 1, 4, none⟩ = some (.slice (some ⟨g2, o2, none⟩) f.out.length do2) ∧ w'.cell? ⟨g2, o2 + i * 2, none⟩ = some (.int .i64 t1) ∧ w'.cell? ⟨g2, o2 + i * 2 + 1, none⟩ = some (.slice kb l2 kd)) := fun w' hB => by
          have hc : ∀ g o v, wr.cell? ⟨g, o, none⟩ = some v → w'.cell? ⟨g, o, none⟩ = some v := fun g o v h => (hB.cell (p := ⟨g, o, none⟩) (World.block_lt_of_cell? _ _ h)).trans h
          exact ⟨hc _ _ _ c4, hc _ _ _ x0, hc _ _ _ x1, hc _ _ _ d4, hc _ _ _ y0, hc _ _ _ y1⟩
        go_wp2_with fail
        go_region_held3 (fun w' => w'.cell? ⟨w.heap.size, 4, none⟩ = some (.slice (some ⟨g1, o1, none⟩) f.out.length co) ∧ w'.cell? ⟨g1, o1 + i * 2, none⟩ = some (.int .i64 t1) ∧ w'.cell? ⟨g1, o1 + i * 2 + 1, none⟩ = some (.slice ka l1 kc) ∧ w'.cell? ⟨w.heap.size + 1, 4, none⟩ = some (.slice (some ⟨g2, o2, none⟩) f.out.length do2) ∧ w'.cell? ⟨g2, o2 + i * 2, none⟩ = some (.int .i64 t1) ∧ w'.cell? ⟨g2, o2 + i * 2 + 1, none⟩ = some (.slice kb l2 kd)) (go_keep) (first
          | (go_at_call 85; refine (HCy.out _ (Below.drew (Below.refl _ _))).mono ?_; rintro e w3 ⟨rfl, HB⟩; have HB3 : Hid (Below w1.heap.size w1 w3) := (Below.drew HR.out.1).trans (HB.mono HR.out.1.size); obtain ⟨z0, z1, z2, z3, z4, z5⟩ := HX.out _ HB; clear HB))
        go_wp2_with fail
        go_roundw
        case rel => exact ⟨i + 1, by omega, by go_num, HB3.out, HQ.out HYes.out⟩
        case measure => simp [intOf]; omega
      · have HNe : Hid (¬ f = g) := HN2.out fun e => hs (HFe.out.1 e).2
        have hs' : Hid (¬ f.out[i].ifs = g.out[i].ifs) := hs
        have HCy : Hid (∀ w2, Below wr.heap.size wr w2 → Calls Try.prog 85 #[.slice ka f.out[i].ifs.length kc, .slice kb g.out[i].ifs.length kd] w2 fun e w' => e = .returned (.bool false) ∧ Below w2.heap.size w2 w') := fun w2 hb => by
          refine (HCi.out w2 hb).mono ?_
          rintro e w' ⟨q1, q2⟩
          exact ⟨q1.of_no hs'.out, q2⟩

        clear hs ht HCi HFe
        generalize f.out[i].ifs.length = l1 at *
        generalize g.out[i].ifs.length = l2 at *
        generalize f.out[i].to = t1 at *
        have HX : Hid (∀ w', Below wr.heap.size wr.drew w' → w'.cell? ⟨w.heap.size, 4, none⟩ = some (.slice (some ⟨g1, o1, none⟩) f.out.length co) ∧ w'.cell? ⟨g1, o1 + i * 2, none⟩ = some (.int .i64 t1) ∧ w'.cell? ⟨g1, o1 + i * 2 + 1, none⟩ = some (.slice ka l1 kc) ∧ w'.cell? ⟨w.heap.size + 1, 4, none⟩ = some (.slice (some ⟨g2, o2, none⟩) f.out.length do2) ∧ w'.cell? ⟨g2, o2 + i * 2, none⟩ = some (.int .i64 t1) ∧ w'.cell? ⟨g2, o2 + i * 2 + 1, none⟩ = some (.slice kb l2 kd)) := fun w' hB => by
          have hc : ∀ g o v, wr.cell? ⟨g, o, none⟩ = some v → w'.cell? ⟨g, o, none⟩ = some v := fun g o v h => (hB.cell (p := ⟨g, o, none⟩) (World.block_lt_of_cell? _ _ h)).trans h
          exact ⟨hc _ _ _ c4, hc _ _ _ x0, hc _ _ _ x1, hc _ _ _ d4, hc _ _ _ y0, hc _ _ _ y1⟩
        go_wp2_with fail
        go_region_held3 (fun w' => w'.cell? ⟨w.heap.size, 4, none⟩ = some (.slice (some ⟨g1, o1, none⟩) f.out.length co) ∧ w'.cell? ⟨g1, o1 + i * 2, none⟩ = some (.int .i64 t1) ∧ w'.cell? ⟨g1, o1 + i * 2 + 1, none⟩ = some (.slice ka l1 kc) ∧ w'.cell? ⟨w.heap.size + 1, 4, none⟩ = some (.slice (some ⟨g2, o2, none⟩) f.out.length do2) ∧ w'.cell? ⟨g2, o2 + i * 2, none⟩ = some (.int .i64 t1) ∧ w'.cell? ⟨g2, o2 + i * 2 + 1, none⟩ = some (.slice kb l2 kd)) (go_keep) (first
          | (go_at_call 85; refine (HCy.out _ (Below.drew (Below.refl _ _))).mono ?_; rintro e w3 ⟨rfl, HB⟩; have HB3 : Hid (Below w1.heap.size w1 w3) := (Below.drew HR.out.1).trans (HB.mono HR.out.1.size); obtain ⟨z0, z1, z2, z3, z4, z5⟩ := HX.out _ HB; clear HB))
        go_wp2_with fail
        go_ret
        exact ⟨.no HNe.out, HB.out.trans (HB3.out.mono HB.out.size)⟩
    · have he : i = f.out.length := by omega
      subst he
      have HE : Hid (f = g) := HOut.out fun j q1 q2 => HR.out.2 j q1 q2 q1
      clear HR
      go_wp2
      go_ret
      exact ⟨.yes HE.out, HBw.out⟩
end
section
open Go.RowKit
set_option linter.unusedVariables false

theorem cell2_second (w : World) (o : Obj) (v0 v1 : Value) (t : TypeId) : Cell2 ((w.alloc o).alloc (.cells #[v0, v1] t)) (w.heap.size + 1) v0 v1 := by
  have := Cell2.new (w.alloc o) v0 v1 t
  rw [size_alloc] at this
  exact this
set_option maxRecDepth 100000 in
set_option maxHeartbeats 1000000 in
theorem RDSame_any (P Q : Nat → Prop) (f g : Df) (a : Option Addr) (c : Nat) (b : Option Addr) (d : Nat) (w : World) (h1 : DfV w P f a c) (h2 : DfV w Q g b d) :
    Calls Try.prog 25 #[.agg #[.string (ba f.id), .slice a f.places.length c], .agg #[.string (ba g.id), .slice b g.places.length d]] w fun e w' => SameQ f g e ∧ Below w.heap.size w w' := by
  obtain ⟨hc1, hl1⟩ := h1.places.cap
  obtain ⟨hc2, hl2⟩ := h2.places.cap
  have HK1 : Hid (∀ i (h : i < f.places.length) wr, Below w.heap.size w wr → ∃ b o aa ca ao co, a = some ⟨b, o, none⟩ ∧ PlAt wr (fun _ => True) b (o + i * 5) f.places[i] aa ca ao co) := fun i h wr hb => by
    obtain ⟨b, o, aa, ca, ao, co, e, _, q⟩ := (h1.places.kept (w' := wr) (Q := fun _ => True) fun g _ hl => ⟨hb.block g hl, trivial⟩).at i h
    rw [getD_memP h] at q
    exact ⟨b, o, aa, ca, ao, co, e, q⟩
  have HK2 : Hid (∀ i (h : i < g.places.length) wr, Below w.heap.size w wr → ∃ b' o aa ca ao co, b = some ⟨b', o, none⟩ ∧ PlAt wr (fun _ => True) b' (o + i * 5) g.places[i] aa ca ao co) := fun i h wr hb => by
    obtain ⟨b, o, aa, ca, ao, co, e, _, q⟩ := (h2.places.kept (w' := wr) (Q := fun _ => True) fun g _ hl => ⟨hb.block g hl, trivial⟩).at i h
    rw [getD_memP h] at q
    exact ⟨b, o, aa, ca, ao, co, e, q⟩
  have HEq : Hid (f = g ↔ f.id = g.id ∧ f.places = g.places) := df_eq
  clear h1 h2
  by_cases e1 : f.id = g.id
  case neg =>
    have HNe : Hid (¬ f = g) := fun e => e1 (HEq.out.1 e).1
    have e1' : ((ba f.id).toList == (ba g.id).toList) = false := toList_ne e1
    clear HEq e1 HK1 HK2
    generalize f.places.length = ln at *
    generalize g.places.length = mn at *
    generalize ba f.id = s1 at *
    generalize ba g.id = s2 at *
    go_enter Try.func25, Try.ntmps25
    go_wp2_with fail
    go_ret
    exact ⟨.no HNe.out, ((Below.refl _ _).alloc (Nat.le_refl _) _).alloc (le_alloc _ _) _⟩
  rw [← e1]
  by_cases e5 : f.places.length = g.places.length
  case neg =>
    have HNe : Hid (¬ f = g) := fun e => e5 (by rw [(HEq.out.1 e).2])
    have e5' : ¬ (f.places.length : Int) = g.places.length := by omega
    clear HEq e1 HK1 HK2
    generalize f.places.length = ln at *
    generalize g.places.length = mn at *
    generalize ba f.id = s1 at *
    go_enter Try.func25, Try.ntmps25
    go_wp2_with fail
    go_ret
    exact ⟨.no HNe.out, ((Below.refl _ _).alloc (Nat.le_refl _) _).alloc (le_alloc _ _) _⟩
  have HOut : Hid ((∀ j (h1 : j < f.places.length) (h2 : j < g.places.length), f.places[j] = g.places[j]) → f = g) := fun h => HEq.out.2 ⟨e1, list_same e5 h⟩
  have HNo : Hid (∀ j (h1 : j < f.places.length) (h2 : j < g.places.length), ¬ f.places[j] = g.places[j] → ¬ f = g) := fun j h1 h2 h e => h (by subst e; rfl)
  have HLen : Hid (f.places.length = g.places.length) := e5
  rw [← e5] at hc2 ⊢
  clear HEq e1 e5
  generalize ba f.id = sid at *
  go_enter Try.func25, Try.ntmps25
  go_wp2_with fail
  have HC : Hid (Below w.heap.size w ((w.alloc (.cells #[.string sid, .slice a f.places.length c] 24)).alloc (.cells #[.string sid, .slice b f.places.length d] 24)) ∧ Cell2 ((w.alloc (.cells #[.string sid, .slice a f.places.length c] 24)).alloc (.cells #[.string sid, .slice b f.places.length d] 24)) w.heap.size (.string sid) (.slice a f.places.length c) ∧ Cell2 ((w.alloc (.cells #[.string sid, .slice a f.places.length c] 24)).alloc (.cells #[.string sid, .slice b f.places.length d] 24)) (w.heap.size + 1) (.string sid) (.slice b f.places.length d)) := ⟨((Below.refl _ _).alloc (Nat.le_refl _) _).alloc (le_alloc _ _) _, (Cell2.new w _ _ 24).below ((Below.refl _ _).alloc (Nat.le_refl _) _), cell2_second w _ _ _ 24⟩
  generalize (w.alloc (.cells #[.string sid, .slice a f.places.length c] 24)).alloc (.cells #[.string sid, .slice b f.places.length d] 24) = W at *
  go_loopw [5] (fun v wr => ∃ (i : Nat), i ≤ f.places.length ∧ v = .int .i64 i ∧ Hid (Below W.heap.size W wr ∧ ∀ j (h1 : j < f.places.length) (h2 : j < g.places.length), j < i → f.places[j] = g.places[j])) (fun v _ => f.places.length - (intOf v).toNat)
  case atStart => exact ⟨0, Nat.zero_le _, rfl, Below.refl _ _, fun j _ _ hj => absurd hj (Nat.not_lt_zero _)⟩
  case round =>
    obtain ⟨i, hi, rfl, HR⟩ := hrel
    have HBw : Hid (Below w.heap.size w wr) := HC.out.1.trans (HR.out.1.mono HC.out.1.size)
    obtain ⟨c0, c1, c2⟩ := HC.out.2.1.below HR.out.1
    obtain ⟨d0, d1, d2⟩ := HC.out.2.2.below HR.out.1
    have hlc := World.block_lt_of_cell? _ _ c0
    have hld := World.block_lt_of_cell? _ _ d0
    by_cases hlt : i < f.places.length
    · have hlt2 : i < g.places.length := by rw [← HLen.out]; exact hlt
      obtain ⟨g1, o1, pa, pb, pc, pd, rfl, hKA⟩ := HK1.out i hlt wr HBw.out
      obtain ⟨g2, o2, qa, qb, qc, qd, rfl, hKB⟩ := HK2.out i hlt2 wr HBw.out
      obtain ⟨x0, x1, x2, x3, x4, hE1⟩ := hKA
      obtain ⟨y0, y1, y2, y3, y4, hE2⟩ := hKB
      have HCi : Hid (∀ w2, Below wr.heap.size wr w2 → Calls Try.prog 52 #[.agg #[.int .i64 f.places[i].kind, .string (ba f.places[i].name), .int .i64 f.places[i].n, .slice pa f.places[i].arg.length pb, .slice pc f.places[i].out.length pd], .agg #[.int .i64 g.places[i].kind, .string (ba g.places[i].name), .int .i64 g.places[i].n, .slice qa g.places[i].arg.length qb, .slice qc g.places[i].out.length qd]] w2 fun e w' => SameQ f.places[i] g.places[i] e ∧ Below w2.heap.size w2 w') := fun w2 hb => samePlace_any _ _ _ _ _ _ _ _ _ _ _ _ w2 (hE1.kept (kept_below hb)) (hE2.kept (kept_below hb))
      have HQ : Hid (f.places[i] = g.places[i] → ∀ j (h1 : j < f.places.length) (h2 : j < g.places.length), j < i + 1 → f.places[j] = g.places[j]) := fun h j q1 q2 hj => by
        rcases Nat.lt_succ_iff_lt_or_eq.1 hj with h3 | h3
        · exact HR.out.2 j q1 q2 h3
        · subst h3; exact h
      have HN2 : Hid (¬ f.places[i] = g.places[i] → ¬ f = g) := HNo.out i hlt hlt2
      have hir : (i : Int) < f.places.length := by omega
      clear hE1 hE2 HNo
      by_cases hs : f.places[i] = g.places[i]
      · have HYes : Hid (f.places[i] = g.places[i]) := hs
        have HCy : Hid (∀ w2, Below wr.heap.size wr w2 → Calls Try.prog 52 #[.agg #[.int .i64 f.places[i].kind, .string (ba f.places[i].name), .int .i64 f.places[i].n, .slice pa f.places[i].arg.length pb, .slice pc f.places[i].out.length pd], .agg #[.int .i64 g.places[i].kind, .string (ba g.places[i].name), .int .i64 g.places[i].n, .slice qa g.places[i].arg.length qb, .slice qc g.places[i].out.length qd]] w2 fun e w' => e = .returned (.bool true) ∧ Below w2.heap.size w2 w') := fun w2 hb => by
          refine (HCi.out w2 hb).mono ?_
          rintro e w' ⟨q1, q2⟩
          exact ⟨q1.of_yes HYes.out, q2⟩
        clear hs HCi
        generalize f.places[i].kind = k1 at *
        generalize ba f.places[i].name = s1 at *
        generalize f.places[i].n = n1 at *
        generalize f.places[i].arg.length = la1 at *
        generalize f.places[i].out.length = lo1 at *
        generalize g.places[i].kind = k2 at *
        generalize ba g.places[i].name = s2 at *
        generalize g.places[i].n = n2 at *
        generalize g.places[i].arg.length = la2 at *
        generalize g.places[i].out.length = lo2 at *
        have HX : Hid (∀ w', Below wr.heap.size wr.drew w' → w'.cell? ⟨w.heap.size, 1, none⟩ = some (.slice (some ⟨g1, o1, none⟩) f.places.length c) ∧ w'.cell? ⟨g1, o1 + i * 5, none⟩ = some (.int .i64 k1) ∧ w'.cell? ⟨g1, o1 + i * 5 + 1, none⟩ = some (.string s1) ∧ w'.cell? ⟨g1, o1 + i * 5 + 2, none⟩ = some (.int .i64 n1) ∧ w'.cell? ⟨g1, o1 + i * 5 + 3, none⟩ = some (.slice pa la1 pb) ∧ w'.cell? ⟨g1, o1 + i * 5 + 4, none⟩ = some (.slice pc lo1 pd) ∧ w'.cell? ⟨w.heap.size + 1, 1, none⟩ = some (.slice (some ⟨g2, o2, none⟩) f.places.length d) ∧ w'.cell? ⟨g2, o2 + i * 5, none⟩ = some (.int .i64 k2) ∧ w'.cell? ⟨g2, o2 + i * 5 + 1, none⟩ = some (.string s2) ∧ w'.cell? ⟨g2, o2 + i * 5 + 2, none⟩ = some (.int .i64 n2) ∧ w'.cell? ⟨g2, o2 + i * 5 + 3, none⟩ = some (.slice qa la2 qb) ∧ w'.cell? ⟨g2, o2 + i * 5 + 4, none⟩ = some (.slice qc lo2 qd)) := fun w' hB => by
          have hc : ∀ g o v, wr.cell? ⟨g, o, none⟩ = some v → w'.cell? ⟨g, o, none⟩ = some v := fun g o v h => (hB.cell (p := ⟨g, o, none⟩) (World.block_lt_of_cell? _ _ h)).trans h
          exact ⟨hc _ _ _ c1, hc _ _ _ x0, hc _ _ _ x1, hc _ _ _ x2, hc _ _ _ x3, hc _ _ _ x4, hc _ _ _ d1, hc _ _ _ y0, hc _ _ _ y1, hc _ _ _ y2, hc _ _ _ y3, hc _ _ _ y4⟩
        go_wp2_with fail
        go_region_held3 (fun w' => w'.cell? ⟨w.heap.size, 1, none⟩ = some (.slice (some ⟨g1, o1, none⟩) f.places.length c) ∧ w'.cell? ⟨g1, o1 + i * 5, none⟩ = some (.int .i64 k1) ∧ w'.cell? ⟨g1, o1 + i * 5 + 1, none⟩ = some (.string s1) ∧ w'.cell? ⟨g1, o1 + i * 5 + 2, none⟩ = some (.int .i64 n1) ∧ w'.cell? ⟨g1, o1 + i * 5 + 3, none⟩ = some (.slice pa la1 pb) ∧ w'.cell? ⟨g1, o1 + i * 5 + 4, none⟩ = some (.slice pc lo1 pd) ∧ w'.cell? ⟨w.heap.size + 1, 1, none⟩ = some (.slice (some ⟨g2, o2, none⟩) f.places.length d) ∧ w'.cell? ⟨g2, o2 + i * 5, none⟩ = some (.int .i64 k2) ∧ w'.cell? ⟨g2, o2 + i * 5 + 1, none⟩ = some (.string s2) ∧ w'.cell? ⟨g2, o2 + i * 5 + 2, none⟩ = some (.int .i64 n2) ∧ w'.cell? ⟨g2, o2 + i * 5 + 3, none⟩ = some (.slice qa la2 qb) ∧ w'.cell? ⟨g2, o2 + i * 5 + 4, none⟩ = some (.slice qc lo2 qd)) (go_keep) (first
          | (go_at_call 52; refine (HCy.out _ (Below.drew (Below.refl _ _))).mono ?_; rintro e w3 ⟨rfl, HB⟩; have HB3 : Hid (Below W.heap.size W w3) := (Below.drew HR.out.1).trans (HB.mono HR.out.1.size); obtain ⟨z0, z1, z2, z3, z4, z5, z6, z7, z8, z9, z10, z11⟩ := HX.out _ HB; clear HB))
        go_wp2_with fail
        go_roundw
        case rel => exact ⟨i + 1, by omega, by go_num, HB3.out, HQ.out HYes.out⟩
        case measure => simp [intOf]; omega
      · have HNy : Hid (¬ f.places[i] = g.places[i]) := hs
        have HNe : Hid (¬ f = g) := HN2.out hs
        have HCy : Hid (∀ w2, Below wr.heap.size wr w2 → Calls Try.prog 52 #[.agg #[.int .i64 f.places[i].kind, .string (ba f.places[i].name), .int .i64 f.places[i].n, .slice pa f.places[i].arg.length pb, .slice pc f.places[i].out.length pd], .agg #[.int .i64 g.places[i].kind, .string (ba g.places[i].name), .int .i64 g.places[i].n, .slice qa g.places[i].arg.length qb, .slice qc g.places[i].out.length qd]] w2 fun e w' => e = .returned (.bool false) ∧ Below w2.heap.size w2 w') := fun w2 hb => by
          refine (HCi.out w2 hb).mono ?_
          rintro e w' ⟨q1, q2⟩
          exact ⟨q1.of_no HNy.out, q2⟩
        clear hs HCi
        generalize f.places[i].kind = k1 at *
        generalize ba f.places[i].name = s1 at *
        generalize f.places[i].n = n1 at *
        generalize f.places[i].arg.length = la1 at *
        generalize f.places[i].out.length = lo1 at *
        generalize g.places[i].kind = k2 at *
        generalize ba g.places[i].name = s2 at *
        generalize g.places[i].n = n2 at *
        generalize g.places[i].arg.length = la2 at *
        generalize g.places[i].out.length = lo2 at *
        have HX : Hid (∀ w', Below wr.heap.size wr.drew w' → w'.cell? ⟨w.heap.size, 1, none⟩ = some (.slice (some ⟨g1, o1, none⟩) f.places.length c) ∧ w'.cell? ⟨g1, o1 + i * 5, none⟩ = some (.int .i64 k1) ∧ w'.cell? ⟨g1, o1 + i * 5 + 1, none⟩ = some (.string s1) ∧ w'.cell? ⟨g1, o1 + i * 5 + 2, none⟩ = some (.int .i64 n1) ∧ w'.cell? ⟨g1, o1 + i * 5 + 3, none⟩ = some (.slice pa la1 pb) ∧ w'.cell? ⟨g1, o1 + i * 5 + 4, none⟩ = some (.slice pc lo1 pd) ∧ w'.cell? ⟨w.heap.size + 1, 1, none⟩ = some (.slice (some ⟨g2, o2, none⟩) f.places.length d) ∧ w'.cell? ⟨g2, o2 + i * 5, none⟩ = some (.int .i64 k2) ∧ w'.cell? ⟨g2, o2 + i * 5 + 1, none⟩ = some (.string s2) ∧ w'.cell? ⟨g2, o2 + i * 5 + 2, none⟩ = some (.int .i64 n2) ∧ w'.cell? ⟨g2, o2 + i * 5 + 3, none⟩ = some (.slice qa la2 qb) ∧ w'.cell? ⟨g2, o2 + i * 5 + 4, none⟩ = some (.slice qc lo2 qd)) := fun w' hB => by
          have hc : ∀ g o v, wr.cell? ⟨g, o, none⟩ = some v → w'.cell? ⟨g, o, none⟩ = some v := fun g o v h => (hB.cell (p := ⟨g, o, none⟩) (World.block_lt_of_cell? _ _ h)).trans h
          exact ⟨hc _ _ _ c1, hc _ _ _ x0, hc _ _ _ x1, hc _ _ _ x2, hc _ _ _ x3, hc _ _ _ x4, hc _ _ _ d1, hc _ _ _ y0, hc _ _ _ y1, hc _ _ _ y2, hc _ _ _ y3, hc _ _ _ y4⟩
        go_wp2_with fail
        go_region_held3 (fun w' => w'.cell? ⟨w.heap.size, 1, none⟩ = some (.slice (some ⟨g1, o1, none⟩) f.places.length c) ∧ w'.cell? ⟨g1, o1 + i * 5, none⟩ = some (.int .i64 k1) ∧ w'.cell? ⟨g1, o1 + i * 5 + 1, none⟩ = some (.string s1) ∧ w'.cell? ⟨g1, o1 + i * 5 + 2, none⟩ = some (.int .i64 n1) ∧ w'.cell? ⟨g1, o1 + i * 5 + 3, none⟩ = some (.slice pa la1 pb) ∧ w'.cell? ⟨g1, o1 + i * 5 + 4, none⟩ = some (.slice pc lo1 pd) ∧ w'.cell? ⟨w.heap.size + 1, 1, none⟩ = some (.slice (some ⟨g2, o2, none⟩) f.places.length d) ∧ w'.cell? ⟨g2, o2 + i * 5, none⟩ = some (.int .i64 k2) ∧ w'.cell? ⟨g2, o2 + i * 5 + 1, none⟩ = some (.string s2) ∧ w'.cell? ⟨g2, o2 + i * 5 + 2, none⟩ = some (.int .i64 n2) ∧ w'.cell? ⟨g2, o2 + i * 5 + 3, none⟩ = some (.slice qa la2 qb) ∧ w'.cell? ⟨g2, o2 + i * 5 + 4, none⟩ = some (.slice qc lo2 qd)) (go_keep) (first
          | (go_at_call 52; refine (HCy.out _ (Below.drew (Below.refl _ _))).mono ?_; rintro e w3 ⟨rfl, HB⟩; have HB3 : Hid (Below W.heap.size W w3) := (Below.drew HR.out.1).trans (HB.mono HR.out.1.size); obtain ⟨z0, z1, z2, z3, z4, z5, z6, z7, z8, z9, z10, z11⟩ := HX.out _ HB; clear HB))
        go_wp2_with fail
        go_ret
        exact ⟨.no HNe.out, HC.out.1.trans (HB3.out.mono HC.out.1.size)⟩
    · have he : i = f.places.length := by omega
      subst he
      have HE : Hid (f = g) := HOut.out fun j q1 q2 => HR.out.2 j q1 q2 q1
      clear HR
      go_wp2
      go_ret
      exact ⟨.yes HE.out, HBw.out⟩
end
end Go.Proofs.Ytjafjheffbbkmaa

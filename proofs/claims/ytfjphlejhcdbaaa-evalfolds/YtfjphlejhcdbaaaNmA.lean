/-
  The names of a tree, the least, the next one, and so on: plain laws.
-/
import Derived.Test.YtfjphlejhcdbaaaNamA
import Derived.Laws.AppendOwnNone
import Derived.RegionTactic
import Derived.ChangeAlike
import Derived.Test.YtfjphlejhcdbaaaTxtA
import Derived.Deep.RegionHeld3
import Derived.Deep.RegionLaw
import Derived.Sort.Walk0
import Derived.Test.YtfjphlejhcdbaaaWrkX
namespace Go.Proofs.Ytfjphlejhcdbaaa
section
set_option linter.unusedVariables false


theorem compact_all {l : List Bs} {x : Bs} (h : x ∈ l) : x ∈ Lib.compact l := by
  unfold Lib.compact Lib.compactUpTo
  obtain ⟨i, hi, rfl⟩ := List.getElem_of_mem h
  have key : ∀ n, ∀ i (hi : i < l.length), i ≤ n → l[i] ∈ (((List.range l.length).filter (Lib.keeps l.toArray)).map (l.toArray[·]!)) := by
    intro n
    induction n with
    | zero =>
      intro i hi h0
      obtain rfl : i = 0 := by omega
      refine List.mem_map.2 ⟨0, List.mem_filter.2 ⟨List.mem_range.2 hi, by simp [Lib.keeps]⟩, ?_⟩
      rw [getElem!_pos _ 0 (by simpa using hi)]; simp
    | succ n ih =>
      intro i hi hn
      by_cases h0 : i = 0
      · subst h0; exact ih 0 hi (by omega)
      · by_cases he : l.toArray[i]! = l.toArray[i - 1]!
        · have e : l[i] = l[i - 1] := by
            rw [getElem!_pos _ i (by simpa using hi), getElem!_pos _ (i - 1) (by simp; omega)] at he
            simpa using he
          rw [e]
          exact ih (i - 1) (by omega) (by omega)
        · refine List.mem_map.2 ⟨i, List.mem_filter.2 ⟨List.mem_range.2 hi, Lib.keeps_pos he⟩, ?_⟩
          rw [getElem!_pos _ i (by simpa using hi)]; simp
  exact key i i hi (Nat.le_refl _)
theorem le_or_lt (x y : Bs) : x ≤ y ∨ y < x := by
  by_cases h : y < x
  · exact .inr h
  · exact .inl (List.not_lt.1 h)
theorem lt_of_le_ne {x y : Bs} (h : x ≤ y) (hn : x ≠ y) : x < y := by
  rcases le_or_lt y x with h2 | h2
  · exact absurd (List.le_antisymm h h2) hn
  · exact h2
theorem lt_of_le_lt {x y z : Bs} (h : x ≤ y) (h2 : y < z) : x < z := List.lt_of_le_of_lt h h2
theorem lt_irr (x : Bs) : ¬ x < x := List.lt_irrefl x
theorem lt_tr {x y z : Bs} (h : x < y) (h2 : y < z) : x < z := List.lt_trans h h2
theorem compact_rise {l : List Bs} (h : l.Pairwise (· ≤ ·)) : (Lib.compact l).Pairwise (· < ·) := by
  unfold Lib.compact Lib.compactUpTo
  rw [List.pairwise_map]
  have hr : ((List.range l.length).filter (Lib.keeps l.toArray)).Pairwise (· < ·) := List.Pairwise.filter _ List.pairwise_lt_range
  refine List.Pairwise.imp_of_mem ?_ hr
  intro i j hi hj hij
  have hj1 := List.mem_range.1 (List.mem_filter.1 hj).1
  have hj2 := (List.mem_filter.1 hj).2
  have hi1 := List.mem_range.1 (List.mem_filter.1 hi).1
  simp only [Lib.keeps, decide_eq_true_eq] at hj2
  have hne : l.toArray[j]! ≠ l.toArray[j - 1]! := hj2.resolve_left (by omega)
  rw [getElem!_pos _ j (by simpa using hj1), getElem!_pos _ (j - 1) (by simp; omega)] at hne
  rw [getElem!_pos _ i (by simpa using hi1), getElem!_pos _ j (by simpa using hj1)]
  simp only [List.getElem_toArray] at hne ⊢
  have a1 : l[j - 1] ≤ l[j] := List.pairwise_iff_getElem.1 h (j - 1) j (by omega) hj1 (by omega)
  have a2 : l[j - 1] < l[j] := lt_of_le_ne a1 (Ne.symm hne)
  by_cases e : i = j - 1
  · subst e; exact a2
  · exact lt_of_le_lt (List.pairwise_iff_getElem.1 h i (j - 1) hi1 (by omega) (by omega)) a2
theorem rise_eq : ∀ {l m : List Bs}, l.Pairwise (· < ·) → m.Pairwise (· < ·) → (∀ x, x ∈ l ↔ x ∈ m) → l = m
  | [], [], _, _, _ => rfl
  | [], y :: m, _, _, h => by have := (h y).2 (List.mem_cons_self ..); cases this
  | x :: l, [], _, _, h => by have := (h x).1 (List.mem_cons_self ..); cases this
  | x :: l, y :: m, hl, hm, h => by
    have hl1 := List.pairwise_cons.1 hl
    have hm1 := List.pairwise_cons.1 hm
    have e : x = y := by
      rcases List.mem_cons.1 ((h x).1 (List.mem_cons_self ..)) with e | e
      · exact e
      · rcases List.mem_cons.1 ((h y).2 (List.mem_cons_self ..)) with e2 | e2
        · exact e2.symm
        · exact absurd (lt_tr (hl1.1 y e2) (hm1.1 x e)) (lt_irr x)
    subst e
    congr 1
    refine rise_eq hl1.2 hm1.2 fun z => ⟨fun hz => ?_, fun hz => ?_⟩
    · rcases List.mem_cons.1 ((h z).1 (List.mem_cons_of_mem _ hz)) with e | e
      · subst e; exact absurd (hl1.1 z hz) (lt_irr z)
      · exact e
    · rcases List.mem_cons.1 ((h z).2 (List.mem_cons_of_mem _ hz)) with e | e
      · subst e; exact absurd (hm1.1 z hz) (lt_irr z)
      · exact e
theorem sortB_rise (l : List Bs) : (sortB l).Pairwise (· ≤ ·) := by
  have := List.pairwise_mergeSort (le := fun x y : Bs => decide (x ≤ y)) (fun a b c h1 h2 => by simp only [decide_eq_true_eq] at *; exact List.le_trans h1 h2) (fun a b => by simp only [Bool.or_eq_true, decide_eq_true_eq]; exact List.le_total a b) l
  exact this.imp fun h => by simpa using h
/-- The least above last, among l and what is held. -/
def bestM (last : Bs) : List Bs → Bs → Bs
  | [], b => b
  | x :: l, b => bestM last l (if last < x ∧ (b = [] ∨ x < b) then x else b)
theorem best_is (last : Bs) : ∀ (l : List Bs) (b : Bs), (∀ x ∈ l, x ≠ []) → (b = [] ∨ last < b) → (bestM last l b = [] → b = [] ∧ ∀ x ∈ l, ¬ last < x) ∧ (bestM last l b ≠ [] → last < bestM last l b ∧ (bestM last l b = b ∨ bestM last l b ∈ l) ∧ (b = [] ∨ bestM last l b ≤ b) ∧ ∀ x ∈ l, last < x → bestM last l b ≤ x)
  | [], b, hl, hb => by
    unfold bestM
    exact ⟨fun h => ⟨h, fun x hx => by cases hx⟩, fun h => ⟨hb.resolve_left h, .inl rfl, .inr (List.le_refl _), fun x hx => by cases hx⟩⟩
  | x :: l, b, hl, hb => by
    unfold bestM
    have hx0 := hl x (List.mem_cons_self ..)
    by_cases hc : last < x ∧ (b = [] ∨ x < b)
    · rw [if_pos hc]
      obtain ⟨i1, i2⟩ := best_is last l x (fun y hy => hl y (List.mem_cons_of_mem _ hy)) (.inr hc.1)
      refine ⟨fun h => absurd (i1 h).1 hx0, fun h => ?_⟩
      obtain ⟨j1, j2, j3, j4⟩ := i2 h
      have j3 := j3.resolve_left hx0
      refine ⟨j1, .inr ?_, ?_, fun y hy hy2 => ?_⟩
      · rcases j2 with e | e
        · rw [e]; exact List.mem_cons_self ..
        · exact List.mem_cons_of_mem _ e
      · rcases hc.2 with e | e
        · exact .inl e
        · exact .inr (List.le_trans j3 (List.le_of_lt e))
      · rcases List.mem_cons.1 hy with rfl | hy
        · exact j3
        · exact j4 y hy hy2
    · rw [if_neg hc]
      obtain ⟨i1, i2⟩ := best_is last l b (fun y hy => hl y (List.mem_cons_of_mem _ hy)) hb
      refine ⟨fun h => ⟨(i1 h).1, fun y hy hy2 => ?_⟩, fun h => ?_⟩
      · rcases List.mem_cons.1 hy with rfl | hy
        · exact hc ⟨hy2, .inl (i1 h).1⟩
        · exact (i1 h).2 y hy hy2
      · obtain ⟨j1, j2, j3, j4⟩ := i2 h
        refine ⟨j1, j2.imp id (List.mem_cons_of_mem _), j3, fun y hy hy2 => ?_⟩
        rcases List.mem_cons.1 hy with rfl | hy
        · by_cases hb0 : b = []
          · exact absurd ⟨hy2, .inl hb0⟩ hc
          · rcases le_or_lt b y with e | e
            · exact List.le_trans (j3.resolve_left hb0) e
            · exact absurd ⟨hy2, .inr e⟩ hc
        · exact j4 y hy hy2
/-- The least above last, the next one, and so on. -/
def nextM (l : List Bs) : Nat → Bs → List Bs
  | 0, _ => []
  | f + 1, last => if bestM last l [] = [] then [] else bestM last l [] :: nextM l f (bestM last l [])
/-- How many there are above last. -/
def above (l : List Bs) (last : Bs) : Nat := (l.filter fun x => decide (last < x)).length
theorem above_less {l : List Bs} {last b : Bs} (hb : b ∈ l) (h : last < b) : above l b < above l last := by
  unfold above
  induction l with
  | nil => cases hb
  | cons x l ih =>
    have hle : ∀ m : List Bs, (m.filter fun x => decide (b < x)).length ≤ (m.filter fun x => decide (last < x)).length := by
      intro m
      induction m with
      | nil => exact Nat.le_refl _
      | cons y m im =>
        simp only [List.filter_cons]
        by_cases h1 : b < y
        · have h2 := lt_tr h h1
          simp only [h1, h2, decide_true, if_true, List.length_cons]; omega
        · simp only [h1, decide_false, Bool.false_eq_true, if_false]
          split
          · simp only [List.length_cons]; omega
          · exact im
    simp only [List.filter_cons]
    rcases List.mem_cons.1 hb with rfl | hb
    · have h1 := lt_irr b
      have := hle l
      simp only [h1, h, decide_true, decide_false, Bool.false_eq_true, if_false, if_true, List.length_cons]; omega
    · have := ih hb
      by_cases h1 : b < x
      · have h2 := lt_tr h h1
        simp only [h1, h2, decide_true, if_true, List.length_cons]; omega
      · simp only [h1, decide_false, Bool.false_eq_true, if_false]
        split
        · simp only [List.length_cons]; omega
        · exact this
theorem next_is (l : List Bs) (hl : ∀ x ∈ l, x ≠ []) : ∀ (f : Nat) (last : Bs), above l last < f → (nextM l f last).Pairwise (· < ·) ∧ ∀ x, x ∈ nextM l f last ↔ (x ∈ l ∧ last < x)
  | 0, last, h => by omega
  | f + 1, last, h => by
    obtain ⟨i1, i2⟩ := best_is last l [] hl (.inl rfl)
    unfold nextM
    by_cases hb : bestM last l [] = []
    · rw [if_pos hb]
      exact ⟨.nil, fun x => ⟨fun hx => absurd hx (List.not_mem_nil ), fun hx => absurd hx.2 ((i1 hb).2 x hx.1)⟩⟩
    · rw [if_neg hb]
      obtain ⟨j1, j2, _, j4⟩ := i2 hb
      have hm : bestM last l [] ∈ l := j2.resolve_left hb
      obtain ⟨k1, k2⟩ := next_is l hl f (bestM last l []) (by have := above_less hm j1; omega)
      generalize bestM last l [] = b at *
      refine ⟨List.pairwise_cons.2 ⟨fun x hx => ((k2 x).1 hx).2, k1⟩, fun x => ⟨fun hx => ?_, fun hx => ?_⟩⟩
      · rcases List.mem_cons.1 hx with rfl | hx
        · exact ⟨hm, j1⟩
        · have := (k2 x).1 hx
          exact ⟨this.1, lt_tr j1 this.2⟩
      · by_cases e : b = x
        · rw [e]; exact List.mem_cons_self ..
        · exact List.mem_cons_of_mem _ ((k2 x).2 ⟨hx.1, lt_of_le_ne (j4 x hx.1 hx.2) e⟩)
theorem nil_lt {x : Bs} (h : x ≠ []) : ([] : Bs) < x := by
  cases x with
  | nil => exact absurd rfl h
  | cons a l => exact List.nil_lt_cons a l
theorem next_names (l : List Bs) (hl : ∀ x ∈ l, x ≠ []) (f : Nat) (hf : l.length < f) : nextM l f [] = Lib.compact (sortB l) := by
  obtain ⟨h1, h2⟩ := next_is l hl f [] (Nat.lt_of_le_of_lt (List.length_filter_le ..) hf)
  refine rise_eq h1 (compact_rise (sortB_rise l)) fun x => ?_
  rw [h2]
  constructor
  · intro h; exact compact_all ((List.mergeSort_perm l _).mem_iff.2 h.1)
  · intro h
    have := sortB_mem (compact_mem h)
    exact ⟨this, nil_lt (hl x this)⟩
end
section
open Go.RowKit Go.Maps
set_option linter.unusedVariables false
theorem wpList_txts {ops : Array Oper} {rest : List Oper} {o : Oper} {a : Act} {Q : Exit → Act → World → Prop} {w : World} (hgd : o.guard = none) (s x : Operand)
    (ho : o.op = .call { callee := .builtin .append, args := #[s, x], argTypes := #[25, 25] }) {base b2 : Nat} {v u : Value} {l m : List Bs} (hl : Txt w base v l) (hm : Txt w b2 u m) (hbase : base ≤ w.heap.size) (hs : a.eval s = v) (hx : a.eval x = u) (hlen : l.length + m.length ≤ 1048576)
    (h : ∀ v' w', Txt w' base v' (l ++ m) → w.grownBy w' v.ownBlock → wpList Try.prog ops Q rest (a.put o.dst v') w') : wpList Try.prog ops Q (o :: rest) a w := by
  obtain ⟨i, hi, hz, hsz, hby⟩ := info_parts infoS
  rcases hm.2 with ⟨e, h0⟩ | ⟨g, cap, cur, e, hb, hg, hnc, hcm, hcs, ht⟩
  · have : m = [] := List.length_eq_zero_iff.1 h0
    subst this
    subst e
    exact wpList_append_own_none hgd s x 25 ho base 9 i 1 Try.underlying25 hi v l.length (strs l) hs hl hx (h _ _ (by rw [List.append_nil]; exact hl) ⟨rfl, rfl, rfl, Nat.le_refl _, fun _ _ _ => rfl⟩)
  · subst e
    refine wpList_append_own_at _ hgd s x 25 ho base 9 i _ 1 16 Try.underlying25 hi hz hsz hby rfl (by decide) v l.length (strs l) hs hl ⟨g, 0, none⟩ m.length cap (strs m) hx (by rw [strs_len]; omega) (World.ownsRow.cells hm rfl) (by intro u hu; unfold strs at hu; obtain ⟨y, _, rfl⟩ := List.mem_map.1 hu; rfl) (by unfold maxLen; omega) (by omega) hbase ?_
    intro v' w' hown hgr _ _
    refine h v' w' ?_ hgr
    unfold Txt
    rw [strs_append, List.length_append]
    exact hown
theorem txt_one (w : World) (base : Nat) (nm : Bs) (hb : base ≤ w.heap.size) (g : Nat) (hg : g = w.heap.size) : Txt (w.alloc (.cells #[.string (ba nm)] 9)) base (.slice (some ⟨g, 0, none⟩) 1 1) [nm] := by
  subst hg
  exact ⟨rfl, .inr ⟨_, 1, #[.string (ba nm)], rfl, hb, heap_alloc_new w _, Nat.le_refl _, by decide, rfl, rfl⟩⟩
theorem col_next {w w3 w5 : World} {v0 v1 v2 v3 u v5 : Value} {cur nx : List Bs} (hb : Below w.heap.size w w3) (hc : Cell4 w3 w.heap.size v0 v1 v2 v3) (ht : Txt w3 (w.heap.size + 1) u cur) (h5 : Txt w5 (w.heap.size + 1) v5 nx) (hg : w3.grownBy w5 u.ownBlock) : Below w.heap.size w w5 ∧ Cell4 w5 w.heap.size v0 v1 v2 v3 ∧ Txt w5 (w.heap.size + 1) v5 nx := by
  have hB : Below (w.heap.size + 1) w3 w5 := (Below.refl _ _).grown hg (show w.heap.size + 1 ≤ w3.heap.size by have := hc.lt; omega) (fun q hq => (World.ownsRow.lt ht q hq).1)
  exact ⟨hb.trans (hB.mono (by omega)), ⟨(hB.cell (p := ⟨w.heap.size, 0, none⟩) (Nat.lt_succ_self _)).trans hc.c0, (hB.cell (p := ⟨w.heap.size, 1, none⟩) (Nat.lt_succ_self _)).trans hc.c1, (hB.cell (p := ⟨w.heap.size, 2, none⟩) (Nat.lt_succ_self _)).trans hc.c2, (hB.cell (p := ⟨w.heap.size, 3, none⟩) (Nat.lt_succ_self _)).trans hc.c3, fun i => by have := hc.free i; simp only [World.frozen?] at this ⊢; rw [hB.block _ (Nat.lt_succ_self _)]; exact this⟩, h5⟩
def Collects (d : Nat) : Prop := ∀ (t : Tr) (v : Value) (w : World), checkM d t = 0 → Tre w (fun g => g < w.heap.size) v t →
  Calls Try.prog 38 #[v] w fun e w' => ∃ nv', e = .returned nv' ∧ Txt w' w.heap.size nv' (varsM d t) ∧ Below w.heap.size w w'
theorem collects_zero : Collects 0 := fun t v w h => by cases h
set_option maxRecDepth 100000 in
set_option maxHeartbeats 1000000 in
theorem collects_succ (d : Nat) (hd : d ≤ 16) (ih : Collects d) : Collects (d + 1) := by
  intro t v w hck hT
  obtain ⟨a, cap, rfl, hcap, hk, hn, hnm, hl63, hkids⟩ := hT.openedP
  by_cases h2 : t.kind = 2
  · have he : varsM (d + 1) t = [t.name] := by unfold varsM; rw [if_pos h2]
    rw [he, h2]
    have HX : Hid (∀ w1 : World, w.heap.size ≤ w1.heap.size → ∀ g, g = w1.heap.size → Txt (w1.alloc (.cells #[.string (ba t.name)] 9)) w.heap.size (.slice (some ⟨g, 0, none⟩) 1 1) [t.name]) := fun w1 h g hg => txt_one w1 _ _ h g hg
    generalize ba t.name = ts at *
    generalize t.name = nm at *
    clear hkids hT
    go_enter Try.func38, Try.ntmps38
    go_wp2
    go_ret
    exact ⟨_, rfl, HX.out _ (le_alloc _ _) _ (by rw [size_alloc]), ((Below.refl _ _).alloc (Nat.le_refl _) _).alloc (le_alloc _ _) _⟩
  · have he : varsM (d + 1) t = t.kids.flatMap (varsM d) := by unfold varsM; rw [if_neg h2]
    rw [he]
    have HI : Hid (∀ (y : Tr) (v : Value) (w : World), checkM d y = 0 → Tre w (fun g => g < w.heap.size) v y → Calls Try.prog 38 #[v] w fun e w' => ∃ nv', e = .returned nv' ∧ Txt w' w.heap.size nv' (varsM d y) ∧ Below w.heap.size w w') := fun y v w h1 h2 => ih y v w h1 h2
    have HK : Hid (∀ i, i < t.kids.length → ∃ b o ka kc, b < w.heap.size ∧ KidAt w (fun g => g < w.heap.size) a i (t.kids.getD i zeroT) b o ka kc) := hkids
    have HD : Hid (∀ y ∈ t.kids, checkM d y = 0) := (check_fits hck).2
    have HK2 : Hid (t.kids.length ≤ 2) := kids_two hck
    have HP : Hid (2 ^ d ≤ 65536) := Nat.pow_le_pow_right (n := 2) (by decide) hd
    clear hkids hT ih hn hnm hck he hk
    generalize t.n = tn at *
    generalize ba t.name = tsn at *
    generalize t.kind = tk at *
    generalize t.kids = ks at *
    have hb2 : (tk == 2) = false := by simpa using h2
    clear h2
    go_enter Try.func38, Try.ntmps38
    go_wp2_with fail
    have HB0 : Hid (Below w.heap.size w (w.alloc (.cells #[.int .i64 tk, .int .i64 tn, .string tsn, .slice a ks.length cap] 24)) ∧ Cell4 (w.alloc (.cells #[.int .i64 tk, .int .i64 tn, .string tsn, .slice a ks.length cap] 24)) w.heap.size (.int .i64 tk) (.int .i64 tn) (.string tsn) (.slice a ks.length cap)) := ⟨(Below.refl _ _).alloc (Nat.le_refl _) _, Cell4.new w _ _ _ _ 24⟩
    generalize w.alloc (.cells #[.int .i64 tk, .int .i64 tn, .string tsn, .slice a ks.length cap] 24) = w1 at *
    go_loopw [3, 4] (fun nv v wr => ∃ (i : Nat), i ≤ ks.length ∧ v = .int .i64 i ∧ Hid (Below w.heap.size w wr ∧ Cell4 wr w.heap.size (.int .i64 tk) (.int .i64 tn) (.string tsn) (.slice a ks.length cap) ∧ Txt wr (w.heap.size + 1) nv ((ks.take i).flatMap (varsM d)))) (fun _ v _ => ks.length - (intOf v).toNat)
    case atStart => exact ⟨0, Nat.zero_le _, rfl, HB0.out.1, HB0.out.2, by rw [List.take_zero, List.flatMap_nil]; exact Txt.nil _ _⟩
    case round =>
      obtain ⟨i, hi, rfl, HR⟩ := hrel
      obtain ⟨p0, p1, p2, p3, p4⟩ := HR.out.2.1
      have hlp : w.heap.size < wr.heap.size := World.block_lt_of_cell? _ _ p0
      by_cases hlt : i < ks.length
      · obtain ⟨b, o, ka, kc, hbb, hKA⟩ := HK.out i hlt
        have HKA : Hid (KidAt wr (fun g => g < w.heap.size) a i (ks.getD i zeroT) b o ka kc) := hKA.low hbb HR.out.1
        obtain ⟨rfl, m0, m1, m2, m3, hkt⟩ := HKA.out
        have hbl : b < wr.heap.size := World.block_lt_of_cell? wr _ m0
        have HY0 : Hid (checkM d (ks.getD i zeroT) = 0) := HD.out _ (by rw [List.getD_eq_getElem?_getD, List.getElem?_eq_getElem hlt]; exact List.getElem_mem hlt)
        have HLe : Hid (((ks.take i).flatMap (varsM d)).length + (varsM d (ks.getD i zeroT)).length ≤ 1048576) := by
          have h1 := flat_len (f := varsM d) (l := ks.take i) (m := 2 ^ d) (fun x hx => vars_len d x (HD.out x (List.mem_of_mem_take hx)))
          have h3 := HK2.out
          have h4 : (ks.take i).length ≤ 1 := by rw [List.length_take]; omega
          have h5 := Nat.mul_le_mul_right (2 ^ d) h4
          have h6 := vars_len d _ HY0.out
          have h7 := HP.out
          unfold Hid
          omega
        have HN : Hid ((ks.take (i + 1)).flatMap (varsM d) = (ks.take i).flatMap (varsM d) ++ varsM d (ks.getD i zeroT)) := take_next hlt _
        have HC : Hid (Calls Try.prog 38 #[.agg #[.int .i64 (ks.getD i zeroT).kind, .int .i64 (ks.getD i zeroT).n, .string (ba (ks.getD i zeroT).name), .slice ka (ks.getD i zeroT).kids.length kc]] wr fun e w' => ∃ nv', e = .returned nv' ∧ Txt w' wr.heap.size nv' (varsM d (ks.getD i zeroT)) ∧ Below wr.heap.size wr w') := HI.out _ _ wr HY0.out (hkt.kept fun g hg _ => ⟨rfl, Nat.lt_trans hg hlp⟩)
        clear hkt hKA HKA HK HD HI HY0
        generalize varsM d (ks.getD i zeroT) = nx at *
        generalize (ks.take i).flatMap (varsM d) = cur at *
        generalize (ks.getD i zeroT).kind = yk at *
        generalize (ks.getD i zeroT).n = yn at *
        generalize ba (ks.getD i zeroT).name = ys at *
        generalize (ks.getD i zeroT).kids.length = yl at *
        go_wp2_with (first
          | (at_builtin; have := HB3; refine wpList_txts rfl (.tmp 18) (.tmp 24) rfl HB3.out.2.2.1 HB3.out.2.2.2 (show w.heap.size + 1 ≤ w3.heap.size by have := HB3.out.2.1.lt; omega) rfl rfl HLe.out ?_; intro v5 w5 h5 hg5; have HB5 : Hid (Below w.heap.size w w5 ∧ Cell4 w5 w.heap.size (.int .i64 tk) (.int .i64 tn) (.string tsn) (.slice (some ⟨b, o, none⟩) ks.length cap) ∧ Txt w5 (w.heap.size + 1) v5 (cur ++ nx)) := col_next HB3.out.1 HB3.out.2.1 HB3.out.2.2.1 h5 hg5; clear h5 hg5 HB3)
          | (go_at_call 38; refine HC.out.mono ?_; rintro e w3 ⟨nv3, rfl, h3, HB⟩; have HB3 : Hid (Below w.heap.size w w3 ∧ Cell4 w3 w.heap.size (.int .i64 tk) (.int .i64 tn) (.string tsn) (.slice (some ⟨b, o, none⟩) ks.length cap) ∧ Txt w3 (w.heap.size + 1) u3 cur ∧ Txt w3 wr.heap.size nv3 nx) := ⟨HR.out.1.trans (HB.mono HR.out.1.size), HR.out.2.1.below HB, HR.out.2.2.below HB, h3⟩; clear HB h3))
        go_roundw
        case rel =>
          exact ⟨i + 1, by omega, by go_num, HB5.out.1, HB5.out.2.1, by rw [HN.out]; exact HB5.out.2.2⟩
        case measure => simp [intOf]; omega
      · have he : i = ks.length := by omega
        subst he
        have HF : Hid (Txt wr w.heap.size u3 (ks.flatMap (varsM d)) ∧ Below w.heap.size w wr) := ⟨by have := HR.out.2.2; rw [List.take_length] at this; exact ⟨this.1, this.2.imp id (fun ⟨g, c, cur, h1, h2, h3⟩ => ⟨g, c, cur, h1, by omega, h3⟩)⟩, HR.out.1⟩
        clear HR
        go_wp2
        go_ret
        exact ⟨_, rfl, HF.out.1, HF.out.2⟩
theorem collects_any : ∀ d, d ≤ 17 → Collects d
  | 0, _ => collects_zero
  | d + 1, h => collects_succ d (by omega) (collects_any d (by omega))
end
section
open Go.RowKit
set_option linter.unusedVariables false
theorem TxtV.at {w : World} {a : Option Addr} {l : List Bs} (h : l = [] ∨ ∃ g, a = some ⟨g, 0, none⟩ ∧ g < w.heap.size ∧ ∀ i, i < l.length → w.cell? ⟨g, i, none⟩ = some (.string (ba (l.getD i [])))) (i : Nat) (hi : i < l.length) : ∃ g, a = some ⟨g, 0, none⟩ ∧ g < w.heap.size ∧ w.cell? ⟨g, i, none⟩ = some (.string (ba (l.getD i []))) := by
  rcases h with rfl | ⟨g, h1, h2, h3⟩
  · simp at hi
  · exact ⟨g, h1, h2, h3 i hi⟩
/-- A row of kids that grows. -/
def Kin (w : World) (B : Nat) (v : Value) (ts : List Tr) : Prop := ∃ xs, w.ownsRow B 24 4 v ts.length xs ∧ ∀ j, j < ts.length → ∃ u0 u1 u2 u3, xs[j * 4]? = some u0 ∧ xs[j * 4 + 1]? = some u1 ∧ xs[j * 4 + 2]? = some u2 ∧ xs[j * 4 + 3]? = some u3 ∧ Tre w (fun g => B ≤ g ∧ v.ownBlock ≠ some g) (.agg #[u0, u1, u2, u3]) (ts.getD j zeroT)
theorem Kin.nil (w : World) (B : Nat) : Kin w B (.slice none 0 0) [] := ⟨[], World.ownsRow_nil _ _ _ _, fun j hj => by simp at hj⟩
theorem Kin.below {w w' : World} {B : Nat} {v : Value} {ts : List Tr} (h : Kin w B v ts) (hb : Below w.heap.size w w') : Kin w' B v ts := by
  obtain ⟨xs, h1, h2⟩ := h
  refine ⟨xs, own_below h1 hb, fun j hj => ?_⟩
  obtain ⟨u0, u1, u2, u3, k0, k1, k2, k3, kt⟩ := h2 j hj
  exact ⟨u0, u1, u2, u3, k0, k1, k2, k3, kt.below hb⟩
theorem Kin.set {w : World} {B : Nat} {v : Value} {ts : List Tr} (h : Kin w B v ts) {p : Addr} (hp : p.block < B) (x : Value) : Kin (w.setCell p x) B v ts := by
  obtain ⟨xs, h1, h2⟩ := h
  refine ⟨xs, ownsRow_setCell_below h1 hp _, fun j hj => ?_⟩
  obtain ⟨u0, u1, u2, u3, k0, k1, k2, k3, kt⟩ := h2 j hj
  exact ⟨u0, u1, u2, u3, k0, k1, k2, k3, kt.set (fun h => by have := h.1; omega) _⟩
theorem Kin.add {w w' : World} {B : Nat} {v v' u0 u1 u2 u3 : Value} {ts : List Tr} {y : Tr} {xs : List Value} (hx : w.ownsRow B 24 4 v ts.length xs)
    (hk : ∀ j, j < ts.length → ∃ u0 u1 u2 u3, xs[j * 4]? = some u0 ∧ xs[j * 4 + 1]? = some u1 ∧ xs[j * 4 + 2]? = some u2 ∧ xs[j * 4 + 3]? = some u3 ∧ Tre w (fun g => B ≤ g ∧ v.ownBlock ≠ some g) (.agg #[u0, u1, u2, u3]) (ts.getD j zeroT))
    (hy : Tre w (fun g => B ≤ g ∧ v.ownBlock ≠ some g) (.agg #[u0, u1, u2, u3]) y) (hn : w'.ownsRow B 24 4 v' (ts.length + 1) (xs ++ [u0, u1, u2, u3])) (hg : w.grownBy w' v.ownBlock) (ho : v'.ownBlock = v.ownBlock ∨ v'.ownBlock = some w.heap.size) : Kin w' B v' (ts ++ [y]) := by
  have key : ∀ {u : Value} {t : Tr}, Tre w (fun g => B ≤ g ∧ v.ownBlock ≠ some g) u t → Tre w' (fun g => B ≤ g ∧ v'.ownBlock ≠ some g) u t := fun h => h.kept fun g hg2 hlt => ⟨hg.block g hlt (fun e => hg2.2 e.symm), hg2.1, by
    rcases ho with e | e
    · rw [e]; exact hg2.2
    · rw [e]; intro h; injection h with h; omega⟩
  have hl := hx.1
  refine ⟨xs ++ [u0, u1, u2, u3], by rw [List.length_append]; exact hn, fun j hj => ?_⟩
  rw [List.length_append] at hj
  by_cases hlt : j < ts.length
  · obtain ⟨x0, x1, x2, x3, k0, k1, k2, k3, kt⟩ := hk j hlt
    refine ⟨x0, x1, x2, x3, ?_, ?_, ?_, ?_, ?_⟩
    · rw [List.getElem?_append_left (by omega)]; exact k0
    · rw [List.getElem?_append_left (by omega)]; exact k1
    · rw [List.getElem?_append_left (by omega)]; exact k2
    · rw [List.getElem?_append_left (by omega)]; exact k3
    · rw [List.getD_eq_getElem?_getD, List.getElem?_append_left hlt, ← List.getD_eq_getElem?_getD]; exact key kt
  · obtain rfl : j = ts.length := by simp at hj; omega
    refine ⟨u0, u1, u2, u3, ?_, ?_, ?_, ?_, ?_⟩
    · rw [List.getElem?_append_right (by omega), show ts.length * 4 - xs.length = 0 from by omega]; rfl
    · rw [List.getElem?_append_right (by omega), show ts.length * 4 + 1 - xs.length = 1 from by omega]; rfl
    · rw [List.getElem?_append_right (by omega), show ts.length * 4 + 2 - xs.length = 2 from by omega]; rfl
    · rw [List.getElem?_append_right (by omega), show ts.length * 4 + 3 - xs.length = 3 from by omega]; rfl
    · rw [List.getD_eq_getElem?_getD, List.getElem?_append_right (Nat.le_refl _), Nat.sub_self]; exact key hy
/-- 'append(v, x)' of one tree as a step of a region that draws its order. -/
theorem step_kin {ops : Array Oper} {o : Oper} {a : Act} {K : Act → World → Prop} {Q : Exit → Act → World → Prop} {E : Prop} {wX : World} (hgd : o.guard = none) (s x : Operand)
    (ho : o.op = .call { callee := .builtin .append, args := #[s, x], argTypes := #[22, 22] }) {B g : Nat} {v : Value} {rk rn : Int} {rs : ByteArray} {ra : Option Addr} {rl rc : Nat} {ts : List Tr} {y : Tr}
    (hl : Kin wX B v ts) (hy : Tre wX (fun g => B ≤ g ∧ v.ownBlock ≠ some g) (.agg #[.int .i64 rk, .int .i64 rn, .string rs, .slice ra rl rc]) y) (hbase : B ≤ wX.heap.size) (hs : a.eval s = v) (hx : a.eval x = .slice (some ⟨g, 0, none⟩) 1 1) (hg : g = wX.heap.size) (hlen : ts.length ≤ 1048576)
    (h : ∀ v' w', Kin w' B v' (ts ++ [y]) → (wX.alloc (.cells #[.int .i64 rk, .int .i64 rn, .string rs, .slice ra rl rc] 24)).grownBy w' v.ownBlock → K (a.put o.dst v') w') : if Region.wanted o (yielded ops a.tmps) = true then Oper.wp Try.prog o a (wX.alloc (.cells #[.int .i64 rk, .int .i64 rn, .string rs, .slice ra rl rc] 24)) K Q else E := by
  subst hg
  obtain ⟨i, hi, hz, hsz, hby⟩ := info_parts infoE
  obtain ⟨xs, h1, h2⟩ := hl
  rw [if_pos (show Region.wanted o (yielded ops a.tmps) = true by simp [Region.wanted, hgd])]
  obtain ⟨v', w', hr, q2, q3, q4, q5⟩ := run_append_own_at (P := Try.prog) (wX.alloc (.cells #[.int .i64 rk, .int .i64 rn, .string rs, .slice ra rl rc] 24)) B 22 o.type 24 i _ 4 56 Try.underlying22 hi hz hsz hby rfl (by decide) v ts.length xs (World.ownsRow.alloc h1 _) ⟨wX.heap.size, 0, none⟩ 1 1 [.int .i64 rk, .int .i64 rn, .string rs, .slice ra rl rc] rfl (cell_four_new _ _ _ _ _ _) (by simp [Value.oneCell']) (by unfold maxLen; omega) (by omega) (by rw [size_alloc]; omega)
  unfold Oper.wp execOp
  simp only [ho, resolve, invoke, builtin, Sem.run_bind, Sem.run_pure, Result.andThen_ok, List.map_toArray, List.map_cons, List.map_nil, hs, hx, hr]
  refine h v' w' ?_ q3
  refine Kin.add (World.ownsRow.alloc h1 _) (fun j hj => ?_) (hy.alloc _) q2 q3 q5
  obtain ⟨u0, u1, u2, u3, k0, k1, k2, k3, kt⟩ := h2 j hj
  exact ⟨u0, u1, u2, u3, k0, k1, k2, k3, kt.alloc _⟩
theorem Kin.done {w : World} {B : Nat} {v : Value} {ts : List Tr} (h : Kin w B v ts) (hl : ts.length ≤ 9223372036854775807) {k n : Int} (hk : InR k) (hn : InR n) {nm : Bs} (hm : nm.length ≤ 9223372036854775807) : ∃ a c, v = .slice a ts.length c ∧ Tre w (fun g => B ≤ g) (.agg #[.int .i64 k, .int .i64 n, .string (ba nm), .slice a ts.length c]) ⟨k, n, nm, ts⟩ := by
  obtain ⟨xs, h1, h2⟩ := h
  rcases h1.2 with ⟨rfl, h0⟩ | ⟨g, cap, cur, rfl, hb, hg, hnc, hcm, hcs, ht⟩
  · have h0 : ts = [] := List.length_eq_zero_iff.1 h0
    subst h0
    exact ⟨none, 0, rfl, Tre.leaf w _ hk hn nm hm⟩
  · refine ⟨_, _, rfl, ?_⟩
    obtain ⟨d, hd⟩ := tre_depth (w := w) (P := fun g => B ≤ g) (ts := ts) (v := fun i u => ∃ u0 u1 u2 u3, u = .agg #[u0, u1, u2, u3] ∧ w.cell? ⟨g, i * 4, none⟩ = some u0 ∧ w.cell? ⟨g, i * 4 + 1, none⟩ = some u1 ∧ w.cell? ⟨g, i * 4 + 2, none⟩ = some u2 ∧ w.cell? ⟨g, i * 4 + 3, none⟩ = some u3) ts.length (fun i hi => by
      obtain ⟨u0, u1, u2, u3, k0, k1, k2, k3, kt⟩ := h2 i hi
      refine ⟨_, ⟨u0, u1, u2, u3, rfl, ?_, ?_, ?_, ?_⟩, kt.sub fun g hg => hg.1⟩
      · rw [World.ownsRow.cellAt h1 _ (by omega)]; exact k0
      · rw [World.ownsRow.cellAt h1 _ (by omega)]; exact k1
      · rw [World.ownsRow.cellAt h1 _ (by omega)]; exact k2
      · rw [World.ownsRow.cellAt h1 _ (by omega)]; exact k3)
    refine ⟨d + 1, some ⟨g, 0, none⟩, cap, rfl, hnc, hk, hn, hm, hl, fun i hi => ?_⟩
    obtain ⟨u, ⟨u0, u1, u2, u3, rfl, h0, h1, h2, h3⟩, ht⟩ := hd i hi
    exact ⟨g, 0, u0, u1, u2, u3, rfl, hb, by rw [Nat.zero_add]; exact h0, by rw [Nat.zero_add]; exact h1, by rw [Nat.zero_add]; exact h2, by rw [Nat.zero_add]; exact h3, ht⟩
theorem ren_other {fr to : Bs} {d : Nat} {t : Tr} (h : checkM (d + 1) t = 0) (hn : ¬ (t.kind = 2 ∧ t.name = fr)) : renM fr to (d + 1) t = ⟨t.kind, t.n, t.name, t.kids.map (renM fr to d)⟩ := by
  have hs := shape h
  unfold renM
  by_cases h0 : t.kids = []
  · rw [if_pos h0, if_neg hn, h0]; rfl
  · rw [if_neg h0]
    rcases hs.kids with ⟨_, h⟩ | ⟨hk, x, h, _⟩ | ⟨hk, x, y, h, _⟩
    · exact absurd h h0
    · rw [hs.name (by omega), hs.num0 (by omega)]
    · rw [hs.name (by omega), hs.num0 (by omega)]
theorem ren_this {fr to : Bs} {d : Nat} {t : Tr} (h : checkM (d + 1) t = 0) (hn : t.kind = 2 ∧ t.name = fr) : renM fr to (d + 1) t = ⟨2, 0, to, []⟩ := by
  have hs := shape h
  unfold renM
  have h0 : t.kids = [] := by
    rcases hs.kids with ⟨_, h⟩ | ⟨hk, x, h, _⟩ | ⟨hk, x, y, h, _⟩
    · exact h
    · omega
    · omega
  rw [if_pos h0, if_pos hn, hn.1, hs.num0 (by omega)]
end
section
open Go.RowKit Go.Maps
set_option linter.unusedVariables false
def RRens (fr to : Bs) (d : Nat) : Prop := ∀ (P : Nat → Prop) (t : Tr) (v : Value) (w : World), checkM d t = 0 → Tre w P v t →
  Calls Try.prog 39 #[v, .string (ba fr), .string (ba to)] w (RPost w (renM fr to d t))
theorem rrens_zero (fr to : Bs) : RRens fr to 0 := fun P t v w h => by cases h
theorem three_blocks (w : World) (x0 x1 x2 x3 y0 y1 y2 y3 z0 z1 z2 z3 : Value) : Cell4 (((w.alloc (.cells #[x0, x1, x2, x3] 24)).alloc (.cells #[y0, y1, y2, y3] 24)).alloc (.cells #[z0, z1, z2, z3] 24)) w.heap.size x0 x1 x2 x3 ∧ Cell4 (((w.alloc (.cells #[x0, x1, x2, x3] 24)).alloc (.cells #[y0, y1, y2, y3] 24)).alloc (.cells #[z0, z1, z2, z3] 24)) (w.heap.size + 1) y0 y1 y2 y3 ∧ Cell4 (((w.alloc (.cells #[x0, x1, x2, x3] 24)).alloc (.cells #[y0, y1, y2, y3] 24)).alloc (.cells #[z0, z1, z2, z3] 24)) (w.heap.size + 2) z0 z1 z2 z3 ∧ Below w.heap.size w (((w.alloc (.cells #[x0, x1, x2, x3] 24)).alloc (.cells #[y0, y1, y2, y3] 24)).alloc (.cells #[z0, z1, z2, z3] 24)) := by
  refine ⟨((Cell4.new w _ _ _ _ 24).alloc _).alloc _, ?_, ?_, (((Below.refl _ _).alloc (Nat.le_refl _) _).alloc (le_alloc _ _) _).alloc (Nat.le_trans (le_alloc _ _) (le_alloc _ _)) _⟩
  · have := Cell4.new (w.alloc (.cells #[x0, x1, x2, x3] 24)) y0 y1 y2 y3 24
    rw [size_alloc] at this
    exact this.alloc _
  · have := Cell4.new ((w.alloc (.cells #[x0, x1, x2, x3] 24)).alloc (.cells #[y0, y1, y2, y3] 24)) z0 z1 z2 z3 24
    rw [size_alloc, size_alloc] at this
    exact this
set_option maxRecDepth 100000 in
set_option maxHeartbeats 1000000 in
theorem rren_this (fr to : Bs) (hto : to.length ≤ 4096) (tn : Int) (a : Option Addr) (l cap : Nat) (w : World) :
    Calls Try.prog 39 #[.agg #[.int .i64 2, .int .i64 tn, .string (ba fr), .slice a l cap], .string (ba fr), .string (ba to)] w (RPost w ⟨2, 0, to, []⟩) := by
  have HT : Hid (∀ w P, Tre w P (.agg #[.int .i64 2, .int .i64 0, .string (ba to), .slice none 0 0]) ⟨2, 0, to, []⟩) := fun w P => Tre.leaf w P ⟨by decide, by decide⟩ inR_zero to (by omega)
  generalize ba to = sto at *
  generalize ba fr = sfr at *
  go_enter Try.func39, Try.ntmps39
  go_wp2
  refine bodyPost_ret (v := .agg #[.int .i64 2, .int .i64 0, .string sto, .slice none 0 0]) (by simp [results, Try.results39, go_sem]) rfl ⟨_, _, _, _, _, _, rfl, HT.out _ _, ((Below.refl _ _).alloc (Nat.le_refl _) _).alloc (le_alloc _ _) _⟩
theorem Cell4.under {w w' : World} {B b : Nat} {v0 v1 v2 v3 : Value} (h : Cell4 w b v0 v1 v2 v3) (hb : b < B) (hf : Below B w w') : Cell4 w' b v0 v1 v2 v3 :=
  ⟨(hf.cell (p := ⟨b, 0, none⟩) hb).trans h.c0, (hf.cell (p := ⟨b, 1, none⟩) hb).trans h.c1, (hf.cell (p := ⟨b, 2, none⟩) hb).trans h.c2, (hf.cell (p := ⟨b, 3, none⟩) hb).trans h.c3, fun i => (hf.frozen (p := ⟨b, i, none⟩) hb).trans (h.free i)⟩
theorem Cell4.put3 {w : World} {b : Nat} {v0 v1 v2 v3 : Value} (h : Cell4 w b v0 v1 v2 v3) (x : Value) : Cell4 (w.setCell ⟨b, 3, none⟩ x) b v0 v1 v2 x :=
  ⟨by rw [cell_put h.c0]; rfl, by rw [cell_put h.c1]; rfl, by rw [cell_put h.c2]; rfl, by rw [cell_put h.c3]; rfl, fun i => by simp only [World.frozen?_setCell]; exact h.free i⟩
/-- What lies where while the kids are put one behind the other. -/
structure Yet (w wr : World) (tk tn : Int) (ts : ByteArray) (a : Option Addr) (l cap : Nat) (kv : Value) (rs : List Tr) : Prop where
  low : Below w.heap.size w wr
  x : Cell4 wr w.heap.size (.int .i64 tk) (.int .i64 tn) (.string ts) (.slice a l cap)
  r : Cell4 wr (w.heap.size + 1) (.int .i64 0) (.int .i64 0) (.string ⟨#[]⟩) (.slice none 0 0)
  y : Cell4 wr (w.heap.size + 2) (.int .i64 tk) (.int .i64 tn) (.string ts) kv
  kin : Kin wr (w.heap.size + 3) kv rs
theorem Yet.size {w wr : World} {tk tn : Int} {ts : ByteArray} {a : Option Addr} {l cap : Nat} {kv : Value} {rs : List Tr} (h : Yet w wr tk tn ts a l cap kv rs) : w.heap.size + 3 ≤ wr.heap.size := h.y.lt
theorem Yet.below {w wr w' : World} {tk tn : Int} {ts : ByteArray} {a : Option Addr} {l cap : Nat} {kv : Value} {rs : List Tr} (h : Yet w wr tk tn ts a l cap kv rs) (hb : Below wr.heap.size wr w') : Yet w w' tk tn ts a l cap kv rs :=
  ⟨h.low.trans (hb.mono h.low.size), h.x.below hb, h.r.below hb, h.y.below hb, h.kin.below hb⟩
theorem Yet.next {w w3 w5 : World} {tk tn : Int} {ts : ByteArray} {a : Option Addr} {l cap : Nat} {kv v5 : Value} {rs rs' : List Tr} {o : Obj} (h : Yet w w3 tk tn ts a l cap kv rs) (h5 : Kin w5 (w.heap.size + 3) v5 rs') (hg : (w3.alloc o).grownBy w5 kv.ownBlock) :
    Cell4 w5 (w.heap.size + 2) (.int .i64 tk) (.int .i64 tn) (.string ts) kv ∧ Yet w (w5.setCell ⟨w.heap.size + 2, 3, none⟩ v5) tk tn ts a l cap v5 rs' := by
  have hs := h.size
  obtain ⟨xs, hx, _⟩ := h.kin
  have hB : Below (w.heap.size + 3) w3 w5 := ((Below.refl _ _).alloc hs _).grown hg (Nat.le_trans hs (le_alloc _ _)) (fun q hq => (World.ownsRow.lt hx q hq).1)
  have hy := h.y.under (Nat.lt_succ_self _) hB
  refine ⟨hy, (h.low.trans (hB.mono (by omega))).setCell (p := ⟨w.heap.size + 2, 3, none⟩) (by show w.heap.size ≤ w.heap.size + 2; omega) _, ?_, ?_, hy.put3 _, h5.set (by show w.heap.size + 2 < w.heap.size + 3; omega) _⟩
  · exact (h.x.under (by omega) hB).far (by show w.heap.size ≠ w.heap.size + 2; omega) _
  · exact (h.r.under (by omega) hB).far (by show w.heap.size + 1 ≠ w.heap.size + 2; omega) _
theorem Kin.off {w : World} {B : Nat} {v : Value} {ts : List Tr} (h : Kin w B v ts) {g : Nat} (hg : w.heap.size ≤ g) : v.ownBlock ≠ some g := by
  obtain ⟨xs, h1, _⟩ := h
  intro e
  have := (World.ownsRow.lt h1 g e).2
  omega
theorem Kin.form {w : World} {B : Nat} {v : Value} {ts : List Tr} (h : Kin w B v ts) : ∃ a n c, v = .slice a n c := by
  obtain ⟨xs, h1, _⟩ := h
  rcases h1.2 with ⟨rfl, _⟩ | ⟨g, cap, cur, rfl, _⟩
  · exact ⟨_, _, _, rfl⟩
  · exact ⟨_, _, _, rfl⟩
theorem take_map {ks : List Tr} {i : Nat} (h : i < ks.length) (f : Tr → Tr) : (ks.take (i + 1)).map f = (ks.take i).map f ++ [f (ks.getD i zeroT)] := by
  rw [List.take_succ_eq_append_getElem h, List.map_append, List.getD_eq_getElem?_getD, List.getElem?_eq_getElem h]
  simp
set_option maxRecDepth 100000 in
set_option maxHeartbeats 1000000 in
theorem rrens_succ (fr to : Bs) (hto : to.length ≤ 4096) (d : Nat) (ih : RRens fr to d) : RRens fr to (d + 1) := by
  intro P t v w hck hT
  obtain ⟨a, cap, rfl, hcap, hk, hn, hnm, hlen, hkids⟩ := hT.opened
  by_cases h2 : t.kind = 2 ∧ t.name = fr
  · rw [ren_this hck h2, h2.1, h2.2]
    exact rren_this fr to hto _ _ _ _ w
  rw [ren_other hck h2]
  have hs := shape hck
  have hkd := (check_fits hck).2
  have hl2 : t.kids.length ≤ 2 := kids_two hck
  have HI : Hid (∀ (y : Tr) (v : Value) (w : World), checkM d y = 0 → Tre w P v y → Calls Try.prog 39 #[v, .string (ba fr), .string (ba to)] w (RPost w (renM fr to d y))) := fun y v w h1 h2 => ih P y v w h1 h2
  have HK : Hid (∀ i, i < t.kids.length → ∃ b o ka kc, KidAt w P a i (t.kids.getD i zeroT) b o ka kc) := hkids
  have HD : Hid (∀ y ∈ t.kids, checkM d y = 0) := hkd
  have HKi : Hid (InR t.kind ∧ InR t.n ∧ t.name.length ≤ 9223372036854775807) := ⟨hk, hn, hnm⟩
  have hb : ((t.kind == 2) = true ∧ ((ba t.name).toList == (ba fr).toList) = false) ∨ (t.kind == 2) = false := by
    rw [ba_toList, ba_toList]
    by_cases h : t.kind = 2
    · have : t.name ≠ fr := fun e => h2 ⟨h, e⟩
      exact .inl ⟨by simpa using h, by simpa using this⟩
    · exact .inr (by simpa using h)
  clear hkids hT ih hk hn hnm hck hkd hs h2
  generalize t.n = tn at *
  generalize hnm2 : t.name = tnm at *
  generalize t.kind = tk at *
  generalize t.kids = ks at *
  clear hnm2
  obtain ⟨w0, hw0⟩ : ∃ w0, w0 = (((w.alloc (.cells #[.int .i64 tk, .int .i64 tn, .string (ba tnm), .slice a ks.length cap] 24)).alloc (.cells #[.int .i64 0, .int .i64 0, .string ⟨#[]⟩, .slice none 0 0] 24)).alloc (.cells #[.int .i64 tk, .int .i64 tn, .string (ba tnm), .slice none 0 0] 24)) := ⟨_, rfl⟩
  have HB0 : Hid (Yet w w0 tk tn (ba tnm) a ks.length cap (.slice none 0 0) []) := by
    obtain ⟨e1, e2, e3, e4⟩ := three_blocks w (.int .i64 tk) (.int .i64 tn) (.string (ba tnm)) (.slice a ks.length cap) (.int .i64 0) (.int .i64 0) (.string ⟨#[]⟩) (.slice none 0 0) (.int .i64 tk) (.int .i64 tn) (.string (ba tnm)) (.slice none 0 0)
    rw [hw0]
    exact ⟨e4, e1, e2, e3, Kin.nil _ _⟩
  have HKd : Hid (∀ wr v rs, Kin wr (w.heap.size + 3) v rs → rs.length ≤ 2 → ∃ a c, v = .slice a rs.length c ∧ Tre wr (fun g => w.heap.size + 3 ≤ g) (.agg #[.int .i64 tk, .int .i64 tn, .string (ba tnm), .slice a rs.length c]) ⟨tk, tn, tnm, rs⟩) := fun wr v rs h1 h2 => h1.done (by omega) HKi.out.1 HKi.out.2.1 HKi.out.2.2
  clear HKi
  generalize ba tnm = ts at *
  generalize ba fr = sfr at *
  generalize ba to = sto at *
  rcases hb with ⟨hb1, hb2⟩ | hb1
  all_goals (
    go_enter Try.func39, Try.ntmps39
    go_wp2_with fail
    rw [← hw0]
    clear hw0
    go_loopw [8] (fun v wr => ∃ (i : Nat), i ≤ ks.length ∧ v = .int .i64 i ∧ Hid (∃ kv, Yet w wr tk tn ts a ks.length cap kv ((ks.take i).map (renM fr to d)))) (fun v _ => ks.length - (intOf v).toNat)
    case atStart => exact ⟨0, Nat.zero_le _, rfl, _, HB0.out⟩
    case round =>
      obtain ⟨i, hi2, rfl, HR⟩ := hrel
      obtain ⟨kv, hR⟩ := HR.out
      have HR : Hid (Yet w wr tk tn ts a ks.length cap kv ((ks.take i).map (renM fr to d))) := hR
      clear hR
      obtain ⟨p0, p1, p2, p3, p4⟩ := HR.out.x
      obtain ⟨q0, q1, q2, q3, q4⟩ := HR.out.r
      obtain ⟨r0, r1, r2, r3, r4⟩ := HR.out.y
      have hlp := World.block_lt_of_cell? _ _ p0
      have hlq := World.block_lt_of_cell? _ _ q0
      have hlr := World.block_lt_of_cell? _ _ r0
      by_cases hlt : i < ks.length
      · obtain ⟨b, o, ka, kc, hKA⟩ := HK.out i hlt
        have HKA : Hid (KidAt wr P a i (ks.getD i zeroT) b o ka kc) := hKA.below HR.out.low
        obtain ⟨rfl, m0, m1, m2, m3, hkt⟩ := HKA.out
        have hbl : b < wr.heap.size := World.block_lt_of_cell? wr _ m0
        have HY0 : Hid (checkM d (ks.getD i zeroT) = 0) := HD.out _ (by rw [List.getD_eq_getElem?_getD, List.getElem?_eq_getElem hlt]; exact List.getElem_mem hlt)
        have HKT : Hid (Tre wr P (.agg #[.int .i64 (ks.getD i zeroT).kind, .int .i64 (ks.getD i zeroT).n, .string (ba (ks.getD i zeroT).name), .slice ka (ks.getD i zeroT).kids.length kc]) (ks.getD i zeroT)) := hkt
        have HM : Hid ((ks.take (i + 1)).map (renM fr to d) = (ks.take i).map (renM fr to d) ++ [renM fr to d (ks.getD i zeroT)]) := take_map hlt _
        have HLn : Hid (((ks.take i).map (renM fr to d)).length ≤ 1048576) := by
          unfold Hid; rw [List.length_map, List.length_take]; omega
        have HC : Hid (∀ w, Tre w P (.agg #[.int .i64 (ks.getD i zeroT).kind, .int .i64 (ks.getD i zeroT).n, .string (ba (ks.getD i zeroT).name), .slice ka (ks.getD i zeroT).kids.length kc]) (ks.getD i zeroT) → Calls Try.prog 39 #[.agg #[.int .i64 (ks.getD i zeroT).kind, .int .i64 (ks.getD i zeroT).n, .string (ba (ks.getD i zeroT).name), .slice ka (ks.getD i zeroT).kids.length kc], .string sfr, .string sto] w (RPost w (renM fr to d (ks.getD i zeroT)))) := fun w h => HI.out _ _ w HY0.out h
        clear hkt hKA HKA HK HD HI HY0
        generalize renM fr to d (ks.getD i zeroT) = ry at *
        generalize (ks.take i).map (renM fr to d) = cur at *
        generalize (ks.getD i zeroT).kind = yk at *
        generalize (ks.getD i zeroT).n = yn at *
        generalize ba (ks.getD i zeroT).name = ys at *
        generalize (ks.getD i zeroT).kids.length = yl at *
        generalize ks.getD i zeroT = y at *
        have HDr : Hid (Below wr.heap.size wr wr.drew) := Below.drew (Below.refl _ _)
        have hir : (i : Int) < ks.length := by omega
        go_wp2_with fail
        go_region_law (first
          | (have := HB3; refine step_kin rfl (.tmp 35) (.tmp 44) rfl HB3.out.1.kin HB3.out.2 HB3.out.1.size rfl rfl rfl HLn.out ?_; intro v5 w5 h5 hg5; obtain ⟨va, vn, vc, rfl⟩ := h5.form; have HB5 : Hid (Yet w (w5.setCell ⟨w.heap.size + 2, 3, none⟩ (.slice va vn vc)) tk tn ts (some ⟨b, o, none⟩) ks.length cap (.slice va vn vc) (cur ++ [ry])) := (HB3.out.1.next h5 hg5).2; obtain ⟨s0, s1, s2, s3, s4⟩ := (HB3.out.1.next h5 hg5).1; have hls := World.block_lt_of_cell? _ _ s0; clear h5 hg5 HB3)
          | (go_simp; go_at_call 39; refine (HC.out _ (HKT.out.below HDr.out)).mono ?_; rintro e w3 ⟨rk, rn, rs, ra, rl, rc, rfl, hrt, HB⟩; have HB3 : Hid (Yet w w3 tk tn ts (some ⟨b, o, none⟩) ks.length cap kv cur ∧ Tre w3 (fun g => w.heap.size + 3 ≤ g ∧ kv.ownBlock ≠ some g) (.agg #[.int .i64 rk, .int .i64 rn, .string rs, .slice ra rl rc]) ry) := ⟨(HR.out.below HDr.out).below HB, hrt.sub fun g hg => ⟨Nat.le_trans (HR.out.below HDr.out).size hg, (HR.out.below HDr.out).kin.off hg⟩⟩; obtain ⟨y0, y1, y2, y3, y4⟩ := HB3.out.1.y; have hly := World.block_lt_of_cell? _ _ y0; clear HB hrt; go_wp2_with fail))
        all_goals (
          go_wp2
          go_roundw
          case rel => exact ⟨i + 1, by omega, by go_num, _, by rw [HM.out]; exact HB5.out⟩
          case measure => simp [intOf]; omega)
      · have he : i = ks.length := by omega
        subst he
        have HF := HKd.out _ _ _ HR.out.kin (by rw [List.length_map, List.length_take]; omega)
        obtain ⟨fa, fc, rfl, hF⟩ := HF
        have HF : Hid (Tre wr (fun g => w.heap.size + 3 ≤ g) (.agg #[.int .i64 tk, .int .i64 tn, .string ts, .slice fa ((ks.take ks.length).map (renM fr to d)).length fc]) ⟨tk, tn, tnm, ks.map (renM fr to d)⟩) := by rw [List.take_length] at hF ⊢; exact hF
        have HL : Hid (Below w.heap.size w wr) := HR.out.low
        clear hF HR
        generalize ((ks.take ks.length).map (renM fr to d)).length = fl at *
        go_wp2
        refine bodyPost_ret (v := .agg #[.int .i64 tk, .int .i64 tn, .string ts, .slice fa fl fc]) (by simp [results, Try.results39, go_sem, q0, q1, q2, q3]) rfl ⟨_, _, _, _, _, _, rfl, ?_, below_four HL.out (M := w.heap.size + 1) (o := 0) (Nat.le_succ _)⟩
        exact HF.out.kept fun g hg _ => ⟨four_other (M := w.heap.size + 1) (o := 0) (by omega), by omega⟩)
theorem rrens_any (fr to : Bs) (hto : to.length ≤ 4096) : ∀ d, RRens fr to d
  | 0 => rrens_zero fr to
  | d + 1 => rrens_succ fr to hto d (rrens_any fr to hto d)
end
section
open Go.RowKit
set_option linter.unusedVariables false
set_option maxRecDepth 100000 in
set_option maxHeartbeats 1000000 in
theorem RRename_any (fr to : Bs) (hto : to.length ≤ 9223372036854775807) (P : Nat → Prop) (t : Tr) (k n : Int) (s : ByteArray) (a : Option Addr) (l c : Nat) (w : World) (hT : Tre w P (.agg #[.int .i64 k, .int .i64 n, .string s, .slice a l c]) t) :
    Calls Try.prog 23 #[.agg #[.int .i64 k, .int .i64 n, .string s, .slice a l c], .string (ba fr), .string (ba to)] w (NPost w (renameM fr to t).1 (renameM fr to t).2) := by
  have HC : Hid (∀ w, Tre w P (.agg #[.int .i64 k, .int .i64 n, .string s, .slice a l c]) t → Calls Try.prog 32 #[.agg #[.int .i64 k, .int .i64 n, .string s, .slice a l c]] w fun e w' => e = .returned (.int .i64 (checkM 16 t)) ∧ Below w.heap.size w w') := fun w h => RCheck_any P t k n s a l c w h
  have HV : Hid (∀ w, Calls Try.prog 32 #[.agg #[.int .i64 2, .int .i64 0, .string (ba to), .slice none 0 0]] w fun e w' => e = .returned (.int .i64 (checkM 16 ⟨2, 0, to, []⟩)) ∧ Below w.heap.size w w') := fun w => RCheck_any (fun _ => True) ⟨2, 0, to, []⟩ 2 0 (ba to) none 0 0 w (Tre.leaf w _ ⟨by decide, by decide⟩ inR_zero to hto)
  have HT : Hid (Tre w P (.agg #[.int .i64 k, .int .i64 n, .string s, .slice a l c]) t) := hT
  clear hT
  by_cases h0 : checkM 16 t = 0
  · by_cases h1 : checkM 16 ⟨2, 0, to, []⟩ = 0
    · have hs : to.length ≤ 32 := name_short (d := 15) (t := ⟨2, 0, to, []⟩) h1
      have he : renameM fr to t = (renM fr to 16 t, 0) := by unfold renameM; rw [if_neg (by omega), if_neg (by omega)]
      have HR : Hid (∀ w, Tre w P (.agg #[.int .i64 k, .int .i64 n, .string s, .slice a l c]) t → Calls Try.prog 39 #[.agg #[.int .i64 k, .int .i64 n, .string s, .slice a l c], .string (ba fr), .string (ba to)] w (RPost w (renM fr to 16 t))) := fun w h => rrens_any fr to (by omega) 16 P t _ w h0 h
      rw [he]
      rw [h0] at HC
      rw [h1] at HV
      generalize renM fr to 16 t = rt at *
      generalize ba fr = sfr at *
      generalize ba to = sto at *
      go_enter Try.func23, Try.ntmps23
      go_wp2_with (first
        | (go_at_call 39; have := HB2; refine (HR.out _ ((HT.out.below HB2.out.2.2))).mono ?_; rintro e w3 ⟨rk, rn, rs, ra, rl, rc, rfl, hrt, HB⟩; obtain ⟨q0, q1, q2, q3, q4⟩ := HB2.out.2.1.below HB; have HB3 : Hid (Tre w3 (fun g => w.heap.size + 2 ≤ g) (.agg #[.int .i64 rk, .int .i64 rn, .string rs, .slice ra rl rc]) rt ∧ Below w.heap.size w w3) := ⟨hrt.sub fun g hg => (by have := HB2.out.2.1.lt; omega), HB2.out.2.2.trans (HB.mono HB2.out.2.2.size)⟩; clear HB hrt)
        | (go_at_call 32; have := HB1; refine (HV.out _).mono ?_; rintro e w2 ⟨rfl, HB⟩; obtain ⟨p0, p1, p2, p3, p4⟩ := HB1.out.1.below HB; have HB2 : Hid (Cell4 w2 w.heap.size (.int .i64 k) (.int .i64 n) (.string s) (.slice a l c) ∧ Cell4 w2 (w.heap.size + 1) (.int .i64 0) (.int .i64 0) (.string ⟨#[]⟩) (.slice none 0 0) ∧ Below w.heap.size w w2) := ⟨HB1.out.1.below HB, HB1.out.2.1.below HB, HB1.out.2.2.trans (HB.mono HB1.out.2.2.size)⟩; have hlp := World.block_lt_of_cell? _ _ p0; clear HB HB1)
        | (go_at_call 32; refine (HC.out _ ((HT.out.alloc _).alloc _)).mono ?_; rintro e w1 ⟨rfl, HB⟩; have HB1 : Hid (Cell4 w1 w.heap.size (.int .i64 k) (.int .i64 n) (.string s) (.slice a l c) ∧ Cell4 w1 (w.heap.size + 1) (.int .i64 0) (.int .i64 0) (.string ⟨#[]⟩) (.slice none 0 0) ∧ Below w.heap.size w w1) := two_next HB; clear HB))
      refine bodyPost_ret (v := .tuple #[.agg #[.int .i64 rk, .int .i64 rn, .string rs, .slice ra rl rc], .int .i64 0]) (by simp [results, Try.results23, go_sem, q0, q1, q2, q3]) rfl ⟨_, _, _, _, _, _, rfl, ?_, below_four HB3.out.2 (M := w.heap.size + 1) (o := 0) (Nat.le_succ _)⟩
      exact HB3.out.1.kept fun g hg _ => ⟨four_other (M := w.heap.size + 1) (o := 0) (by omega), by omega⟩
    · have he : renameM fr to t = (zeroT, checkM 16 ⟨2, 0, to, []⟩) := by unfold renameM; rw [if_neg (by omega), if_pos h1]
      rw [he]
      rw [h0] at HC
      have h2 : ((checkM 16 ⟨2, 0, to, []⟩ : Int) != 0) = true := by simp; omega
      generalize checkM 16 ⟨2, 0, to, []⟩ = ck at *
      generalize ba fr = sfr at *
      generalize ba to = sto at *
      go_enter Try.func23, Try.ntmps23
      go_wp2_with (first
        | (go_at_call 32; have := HB1; refine (HV.out _).mono ?_; rintro e w2 ⟨rfl, HB⟩; obtain ⟨q0, q1, q2, q3, q4⟩ := HB1.out.2.1.below HB; have HB2 : Hid (Below w.heap.size w w2) := HB1.out.2.2.trans (HB.mono HB1.out.2.2.size); clear HB HB1)
        | (go_at_call 32; refine (HC.out _ ((HT.out.alloc _).alloc _)).mono ?_; rintro e w1 ⟨rfl, HB⟩; have HB1 : Hid (Cell4 w1 w.heap.size (.int .i64 k) (.int .i64 n) (.string s) (.slice a l c) ∧ Cell4 w1 (w.heap.size + 1) (.int .i64 0) (.int .i64 0) (.string ⟨#[]⟩) (.slice none 0 0) ∧ Below w.heap.size w w1) := two_next HB; clear HB))
      refine bodyPost_ret (v := .tuple #[.agg #[.int .i64 0, .int .i64 0, .string ⟨#[]⟩, .slice none 0 0], .int .i64 ck]) (by simp [results, Try.results23, go_sem, q0, q1, q2, q3]) rfl ⟨_, _, _, _, _, _, rfl, zero_tre _ _, below_four HB2.out (M := w.heap.size + 1) (o := 0) (Nat.le_succ _)⟩
  · have he : renameM fr to t = (zeroT, checkM 16 t) := by unfold renameM; rw [if_pos h0]
    rw [he]
    have h2 : ((checkM 16 t : Int) != 0) = true := by simp; omega
    generalize checkM 16 t = ck at *
    generalize ba fr = sfr at *
    generalize ba to = sto at *
    go_enter Try.func23, Try.ntmps23
    go_wp2_with (go_at_call 32; refine (HC.out _ ((HT.out.alloc _).alloc _)).mono ?_; rintro e w1 ⟨rfl, HB⟩; obtain ⟨_, ⟨q0, q1, q2, q3, q4⟩, hb⟩ := two_next HB; have HB2 : Hid (Below w.heap.size w w1) := hb; clear HB hb)
    refine bodyPost_ret (v := .tuple #[.agg #[.int .i64 0, .int .i64 0, .string ⟨#[]⟩, .slice none 0 0], .int .i64 ck]) (by simp [results, Try.results23, go_sem, q0, q1, q2, q3]) rfl ⟨_, _, _, _, _, _, rfl, zero_tre _ _, below_four HB2.out (M := w.heap.size + 1) (o := 0) (Nat.le_succ _)⟩
end
section
open Go.RowKit
set_option linter.unusedVariables false
theorem less_yesR {x y : Bs} (h : x < y) : Op.bytesLess (ba x).toList (ba y).toList = true := by rw [ba_toList, ba_toList, bytesLess_eq]; exact decide_eq_true h
theorem less_no {x y : Bs} (h : ¬ x < y) : Op.bytesLess (ba x).toList (ba y).toList = false := by rw [ba_toList, ba_toList, bytesLess_eq]; exact decide_eq_false h
theorem same_no {x y : Bs} (h : x ≠ y) : ((ba x).toList == (ba y).toList) = false := by rw [ba_toList, ba_toList]; simpa using h
theorem same_not {x y : Bs} (h : x ≠ y) : ¬ (ba x).toList = (ba y).toList := by rw [ba_toList, ba_toList]; exact h
theorem full_not {x : Bs} (h : x ≠ []) : ¬ (ba x).toList = [] := by rw [ba_toList]; exact h
theorem full_no {x : Bs} (h : x ≠ []) : (ba x).toList.isEmpty = false := by rw [ba_toList]; simpa using h
/-- A value as a text. -/
def strOf : Value → Bs
  | .string s => s.data.toList
  | _ => []
theorem strOf_ba (l : Bs) : strOf (.string (ba l)) = l := by simp [strOf, ba]
theorem vars_full : ∀ (d : Nat) (t : Tr), checkM d t = 0 → ∀ x ∈ varsM d t, x ≠ []
  | 0, t, h => by cases h
  | d + 1, t, h => by
    intro x hx
    unfold varsM at hx
    split at hx
    · rename_i h2
      simp only [List.mem_singleton] at hx
      have hf := (check_fits h).1
      unfold fitsM at hf
      simp only [if_pos h2] at hf
      have h1 : nameOk t.name = true := by
        split at hf
        · cases hf
        · split at hf
          · cases hf
          · simp only [Bool.and_eq_true] at hf
            exact hf.1.1
      intro e
      rw [← hx, e] at h1
      cases h1
    · obtain ⟨y, hy, hxy⟩ := List.mem_flatMap.1 hx
      exact vars_full d y ((check_fits h).2 y hy) x hxy
theorem Txt.toV {w : World} {base : Nat} {v : Value} {l : List Bs} (h : Txt w base v l) (hl : l.length ≤ 1048576) : TxtV w v l := by
  obtain ⟨a, cap, rfl, h1, h2, h3⟩ := h.form
  refine ⟨a, cap, rfl, h1, hl, ?_⟩
  by_cases e : l = []
  · exact .inl e
  · obtain ⟨g, rfl⟩ := h3 e
    refine .inr ⟨g, rfl, (World.ownsRow.lt h g rfl).2, fun i hi => ?_⟩
    rw [World.ownsRow.cellAt h i (by omega)]
    unfold strs
    rw [List.getElem?_map, List.getElem?_eq_getElem hi, List.getD_eq_getElem?_getD, List.getElem?_eq_getElem hi]
    rfl
/-- What the outer loop keeps: what is there, and what is still to come. -/
structure Nxt (vs R done : List Bs) (last : Bs) : Prop where
  rest : ∃ f, R = done ++ nextM vs f last ∧ above vs last < f ∧ done.length + f = vs.length + 1
theorem Nxt.start (vs : List Bs) : Nxt vs (nextM vs (vs.length + 1) []) [] [] := ⟨⟨_, rfl, Nat.lt_succ_of_le (List.length_filter_le ..), by simp⟩⟩
theorem Nxt.stop {vs R done : List Bs} {last : Bs} (h : Nxt vs R done last) (hb : bestM last vs [] = []) : R = done := by
  obtain ⟨f, h1, h2, _⟩ := h.rest
  cases f with
  | zero => omega
  | succ f =>
    unfold nextM at h1
    rw [if_pos hb, List.append_nil] at h1
    exact h1
theorem Nxt.len {vs R done : List Bs} {last : Bs} (h : Nxt vs R done last) : done.length ≤ vs.length := by
  obtain ⟨f, h1, h2, h3⟩ := h.rest
  omega
theorem Nxt.next {vs R done : List Bs} {last : Bs} (hl : ∀ x ∈ vs, x ≠ []) (h : Nxt vs R done last) (hb : bestM last vs [] ≠ []) : Nxt vs R (done ++ [bestM last vs []]) (bestM last vs []) ∧ above vs (bestM last vs []) < above vs last := by
  obtain ⟨f, h1, h2, h3⟩ := h.rest
  obtain ⟨j1, j2, _, _⟩ := (best_is last vs [] hl (.inl rfl)).2 hb
  have ha := above_less (j2.resolve_left hb) j1
  refine ⟨?_, ha⟩
  cases f with
  | zero => omega
  | succ f =>
    conv at h1 => rhs; rhs; unfold nextM
    rw [if_neg hb] at h1
    exact ⟨⟨f, by rw [h1, List.append_assoc]; rfl, by omega, by rw [List.length_append]; simp; omega⟩⟩
theorem best_step (last : Bs) {vs : List Bs} {i : Nat} (h : i < vs.length) (b : Bs) : bestM last (vs.drop i) b = bestM last (vs.drop (i + 1)) (if last < vs.getD i [] ∧ (b = [] ∨ vs.getD i [] < b) then vs.getD i [] else b) := by
  rw [List.drop_eq_getElem_cons h]
  conv => lhs; unfold bestM
  rw [List.getD_eq_getElem?_getD, List.getElem?_eq_getElem h]
  rfl
theorem Txt.cell {w : World} {base : Nat} {a : Option Addr} {c : Nat} {l : List Bs} (h : Txt w base (.slice a l.length c) l) (i : Nat) (hi : i < l.length) : ∃ g, a = some ⟨g, 0, none⟩ ∧ g < w.heap.size ∧ w.cell? ⟨g, i, none⟩ = some (.string (ba (l.getD i []))) := by
  rcases h.2 with ⟨e, h0⟩ | ⟨g, cap, cur, e, hb, hg, _⟩
  · omega
  · injection e with e1 e2 e3
    subst e1
    refine ⟨g, rfl, (World.ownsRow.lt h g rfl).2, ?_⟩
    rw [World.ownsRow.cellAt h i (by omega)]
    unfold strs
    rw [List.getElem?_map, List.getElem?_eq_getElem hi, List.getD_eq_getElem?_getD, List.getElem?_eq_getElem hi]
    rfl
set_option maxRecDepth 100000 in
set_option maxHeartbeats 1000000 in
theorem RNames_any (P : Nat → Prop) (t : Tr) (k n : Int) (s : ByteArray) (a : Option Addr) (l c : Nat) (w : World) (hT : Tre w P (.agg #[.int .i64 k, .int .i64 n, .string s, .slice a l c]) t) :
    Calls Try.prog 21 #[.agg #[.int .i64 k, .int .i64 n, .string s, .slice a l c]] w (NmPost w (namesM t)) := by
  have HT : Hid (Tre w (fun g => g < w.heap.size) (.agg #[.int .i64 k, .int .i64 n, .string s, .slice a l c]) t) := hT.kept fun g _ hlt => ⟨rfl, hlt⟩
  have HC : Hid (∀ w P, Tre w P (.agg #[.int .i64 k, .int .i64 n, .string s, .slice a l c]) t → Calls Try.prog 32 #[.agg #[.int .i64 k, .int .i64 n, .string s, .slice a l c]] w fun e w' => e = .returned (.int .i64 (checkM 16 t)) ∧ Below w.heap.size w w') := fun w P h => RCheck_any P t k n s a l c w h
  clear hT
  by_cases h0 : checkM 16 t = 0
  · have he : namesM t = Lib.compact (sortB (varsM 16 t)) := by unfold namesM; rw [if_neg (by omega)]
    rw [he]
    have hvl := vars_len 16 t h0
    have hful := vars_full 16 t h0
    rw [← next_names _ hful _ (Nat.lt_succ_self _)]
    have HFu : Hid (∀ x ∈ varsM 16 t, x ≠ []) := hful
    clear hful
    have HV : Hid (∀ w2, Tre w2 (fun g => g < w2.heap.size) (.agg #[.int .i64 k, .int .i64 n, .string s, .slice a l c]) t → Calls Try.prog 38 #[.agg #[.int .i64 k, .int .i64 n, .string s, .slice a l c]] w2 fun e w' => ∃ nv', e = .returned nv' ∧ Txt w' w2.heap.size nv' (varsM 16 t) ∧ Below w2.heap.size w2 w') := fun w2 h1 => collects_any 16 (by decide) t _ w2 h0 h1
    rw [h0] at HC
    generalize varsM 16 t = vs at *
    go_enter Try.func21, Try.ntmps21
    go_wp2_with (first
      | (go_at_call 38; have := HB1; refine (HV.out _ ((HT.out.below HB1.out).kept fun g hg _ => ⟨rfl, (by omega)⟩)).mono ?_; rintro e w2 ⟨nv, rfl, h2, HB⟩; obtain ⟨va, vc, rfl, hcap1, hcap2, hva⟩ := h2.form; have HB2 : Hid (Below w.heap.size w w2 ∧ Txt w2 w1.heap.size (.slice va vs.length vc) vs) := ⟨HB1.out.trans (HB.mono HB1.out.size), h2⟩; clear HB h2)
      | (go_at_call 32; refine (HC.out _ _ (HT.out.alloc _)).mono ?_; rintro e w1 ⟨rfl, HB⟩; have HB1 : Hid (Below w.heap.size w w1) := ((Below.refl _ _).alloc (Nat.le_refl _) _).trans (HB.mono (le_alloc _ _)); obtain ⟨q0, q1, q2, q3, q4⟩ := (Cell4.new w (.int .i64 k) (.int .i64 n) (.string s) (.slice a l c) 24).below HB; have hl1 : w.heap.size < w1.heap.size := World.block_lt_of_cell? _ _ q0; clear HB))
    generalize hR : nextM vs (vs.length + 1) [] = R at *
    have HN0 : Hid (Nxt vs R [] []) := by rw [← hR]; exact Nxt.start vs
    clear hR
    go_loopw [4, 5] (fun vo vl wr => ∃ (done : List Bs) (last : Bs), vl = .string (ba last) ∧ Hid (Below w2.heap.size w2 wr ∧ Txt wr w2.heap.size vo done ∧ Nxt vs R done last)) (fun _ vl _ => above vs (strOf vl))
    case atStart => exact ⟨[], [], rfl, Below.refl _ _, Txt.nil _ _, HN0.out⟩
    case round =>
      obtain ⟨done, last, rfl, HR⟩ := hrel
      obtain ⟨wo, hwo⟩ : ∃ wo, wo = wr := ⟨_, rfl⟩
      obtain ⟨ov, hov⟩ : ∃ ov, ov = u4 := ⟨_, rfl⟩
      go_wp2_with fail
      go_loopw [6, 7] (fun vb vi wx => ∃ (i : Nat) (best : Bs), i ≤ vs.length ∧ vi = .int .i64 i ∧ vb = .string (ba best) ∧ wr = wx ∧ Hid (bestM last (vs.drop i) best = bestM last vs [])) (fun _ vi _ => vs.length - (intOf vi).toNat)
      case atStart => exact ⟨0, [], Nat.zero_le _, rfl, rfl, rfl, rfl⟩
      case round =>
        obtain ⟨i, best, hi, rfl, rfl, rfl, HI⟩ := hrel
        by_cases hlt : i < vs.length
        · obtain ⟨g, rfl, hg, hc⟩ := (HB2.out.2.below HR.out.1).cell i hlt
          have HBs : Hid (bestM last (vs.drop i) best = bestM last (vs.drop (i + 1)) (if last < vs.getD i [] ∧ (best = [] ∨ vs.getD i [] < best) then vs.getD i [] else best)) := best_step last hlt best
          generalize vs.getD i [] = x at *
          obtain ⟨sb, hsb⟩ : ∃ sb, sb = ba best := ⟨_, rfl⟩
          obtain ⟨sl, hsl⟩ : ∃ sl, sl = ba last := ⟨_, rfl⟩
          obtain ⟨sx, hsx⟩ : ∃ sx, sx = ba x := ⟨_, rfl⟩
          by_cases c1 : last < x
          · have f1 : Op.bytesLess sx.toList sl.toList = false := by rw [hsx, hsl]; exact less_no (fun h => lt_irr _ (lt_tr h c1))
            have f2 : (sx.toList == sl.toList) = false := by rw [hsx, hsl]; exact same_no (fun h => lt_irr _ (h ▸ c1))
            have f3 : ¬ sx.toList = sl.toList := by rw [hsx, hsl]; exact same_not (fun h => lt_irr _ (h ▸ c1))
            by_cases c2 : best = []
            · have HV : Hid (bestM last (vs.drop (i + 1)) x = bestM last vs []) := by rw [if_pos ⟨c1, .inl c2⟩] at HBs; exact HBs.out.symm.trans HI.out
              have HX : Hid (sx = ba x) := hsx
              rw [← hsx] at hc
              rw [c2] at hsb
              have hsb : sb = ⟨#[]⟩ := hsb
              rw [c2, show ba ([] : Bs) = ⟨#[]⟩ from rfl, ← hsl]
              clear HBs HI hsx hsl hsb c1 c2
              go_wp2
              go_roundw
              case rel => exact ⟨i + 1, x, by omega, by go_num, by rw [HX.out], trivial, HV.out⟩
              case measure => simp [intOf]; omega
            · have f4 : sb.toList.isEmpty = false := by rw [hsb]; exact full_no c2
              have f5 : ¬ sb.toList = [] := by rw [hsb]; exact full_not c2
              by_cases c3 : x < best
              · have f6 : Op.bytesLess sx.toList sb.toList = true := by rw [hsx, hsb]; exact less_yesR c3
                have HV : Hid (bestM last (vs.drop (i + 1)) x = bestM last vs []) := by rw [if_pos ⟨c1, .inr c3⟩] at HBs; exact HBs.out.symm.trans HI.out
                have HX : Hid (sx = ba x) := hsx
                rw [← hsx] at hc
                rw [← hsl, ← hsb]
                clear HBs HI hsx hsl hsb c1 c2 c3
                go_wp2
                go_roundw
                case rel => exact ⟨i + 1, x, by omega, by go_num, by rw [HX.out], trivial, HV.out⟩
                case measure => simp [intOf]; omega
              · have f6 : Op.bytesLess sx.toList sb.toList = false := by rw [hsx, hsb]; exact less_no c3
                have HV : Hid (bestM last (vs.drop (i + 1)) best = bestM last vs []) := by rw [if_neg (fun h => h.2.elim c2 c3)] at HBs; exact HBs.out.symm.trans HI.out
                have HX : Hid (sb = ba best) := hsb
                rw [← hsx] at hc
                rw [← hsl, ← hsb]
                clear HBs HI hsx hsl hsb c1 c2 c3
                go_wp2
                go_roundw
                case rel => exact ⟨i + 1, best, by omega, by go_num, by rw [HX.out], trivial, HV.out⟩
                case measure => simp [intOf]; omega
          · have HV : Hid (bestM last (vs.drop (i + 1)) best = bestM last vs []) := by rw [if_neg (fun h => c1 h.1)] at HBs; exact HBs.out.symm.trans HI.out
            have HX : Hid (sb = ba best) := hsb
            have f0 : Op.bytesLess sx.toList sl.toList = true ∨ (Op.bytesLess sx.toList sl.toList = false ∧ sx = sl) := by
              rcases le_or_lt last x with h | h
              · by_cases e : last = x
                · rw [hsx, hsl, e]; exact .inr ⟨less_no (lt_irr _), rfl⟩
                · exact absurd (lt_of_le_ne h e) c1
              · rw [hsx, hsl]; exact .inl (less_yesR h)
            rw [← hsx] at hc
            rw [← hsl, ← hsb]
            clear HBs HI hsx hsb c1
            rcases f0 with f1 | ⟨f1, f2⟩
            · clear hsl
              go_wp2
              go_roundw
              case rel => exact ⟨i + 1, best, by omega, by go_num, by rw [HX.out], trivial, HV.out⟩
              case measure => simp [intOf]; omega
            · subst f2
              have f3 : (sx.toList == sx.toList) = true := by simp
              clear hsl
              go_wp2
              go_roundw
              case rel => exact ⟨i + 1, best, by omega, by go_num, by rw [HX.out], trivial, HV.out⟩
              case measure => simp [intOf]; omega
        · have he : i = vs.length := by omega
          subst he
          have hbs : best = bestM last vs [] := by have := HI.out; rw [List.drop_length] at this; exact this
          have HRb : Hid (Below w.heap.size w wr) := HB2.out.1.trans (HR.out.1.mono HB2.out.1.size)
          have HLe : Hid (done.length ≤ 1048576) := Nat.le_trans HR.out.2.2.len (by omega)
          by_cases c2 : best = []
          · have HF : Hid (TxtV wr u4 R) := by
              have e := HR.out.2.2.stop (hbs.symm.trans c2)
              rw [e]
              exact HR.out.2.1.toV HLe.out
            rw [c2, show ba ([] : Bs) = ⟨#[]⟩ from rfl]
            clear HI hbs c2 HR
            go_wp2
            go_ret
            exact ⟨_, rfl, HF.out, HRb.out⟩
          · have HN : Hid (Nxt vs R (done ++ [best]) best ∧ above vs best < above vs last) := by
              rw [hbs]; exact HR.out.2.2.next HFu.out (by rw [← hbs]; exact c2)
            have f4 : (ba best).toList.isEmpty = false := full_no c2
            have f5 : ¬ (ba best).toList = [] := full_not c2
            have HX : Hid (∀ m, ba best = ba m → m = best) := fun m h => by simpa [ba] using h.symm
            have HSt : Hid (above vs (strOf (.string (ba best))) < above vs (strOf (.string (ba last)))) := by
              unfold Hid; rw [strOf_ba, strOf_ba]; exact HN.out.2
            clear HI hbs c2
            go_wp2_with (at_builtin; refine wpList_txt rfl (.tmp 43) (.tmp 45) rfl (ba best) HR.out.2.1 HR.out.1.size rfl rfl rfl HLe.out ?_; intro v5 w5 m hm h5 hg5; have HB5 : Hid (Below w2.heap.size w2 w5 ∧ Txt w5 w2.heap.size v5 (done ++ [best])) := ⟨(HR.out.1.alloc HR.out.1.size _).grown hg5 (Nat.le_trans HR.out.1.size (le_alloc _ _)) (fun q hq => (World.ownsRow.lt HR.out.2.1 q hq).1), (by rw [← HX.out m hm]; exact h5)⟩; clear h5 hg5 hm)
            go_roundw
            case rel => exact ⟨done ++ [best], best, rfl, HB5.out.1, HB5.out.2, HN.out.1⟩
            case measure => exact HSt.out
  · have he : namesM t = [] := by unfold namesM; rw [if_pos h0]
    rw [he]
    have h2 : ((checkM 16 t : Int) != 0) = true := by simp; omega
    generalize checkM 16 t = ck at *
    go_enter Try.func21, Try.ntmps21
    go_wp2_with (go_at_call 32; refine (HC.out _ _ (HT.out.alloc _)).mono ?_; rintro e w1 ⟨rfl, HB⟩; have HB1 : Hid (Below w.heap.size w w1) := ((Below.refl _ _).alloc (Nat.le_refl _) _).trans (HB.mono (le_alloc _ _)); clear HB)
    go_ret
    exact ⟨_, rfl, ⟨_, 0, rfl, Nat.le_refl _, Nat.zero_le _, .inl rfl⟩, HB1.out⟩
end
section
open Go.RowKit
set_option linter.unusedVariables false
/-- Three trees that lie in blocks of the law's own. -/
structure Tri (w wX : World) (yb zb : Nat) (x0 x1 x2 x3 y0 y1 y2 y3 z0 z1 z2 z3 : Value) : Prop where
  low : Below w.heap.size w wX
  x : Cell4 wX w.heap.size x0 x1 x2 x3
  y : Cell4 wX yb y0 y1 y2 y3
  z : Cell4 wX zb z0 z1 z2 z3
theorem Tri.below {w wX w' : World} {yb zb : Nat} {x0 x1 x2 x3 y0 y1 y2 y3 z0 z1 z2 z3 : Value} (h : Tri w wX yb zb x0 x1 x2 x3 y0 y1 y2 y3 z0 z1 z2 z3) (hb : Below wX.heap.size wX w') : Tri w w' yb zb x0 x1 x2 x3 y0 y1 y2 y3 z0 z1 z2 z3 :=
  ⟨h.low.trans (hb.mono h.low.size), h.x.below hb, h.y.below hb, h.z.below hb⟩
end
end Go.Proofs.Ytfjphlejhcdbaaa

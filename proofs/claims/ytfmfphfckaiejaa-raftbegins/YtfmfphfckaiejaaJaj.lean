/-
  The program's made, Copy, From, Behind, Compact, Reset: contracts.
-/
import Derived.Test.YtfmfphfckaiejaaJac
import Derived.Test.YtfmfphfckaiejaaJai
namespace Go.Proofs.Ytfmfphfckaiejaa
section
open Go.RowKit
set_option linter.unusedVariables false


/-- A log that was made. -/
def LogP (b bt : Int) (es : List En) (w : World) (e : Ending) (w' : World) : Prop := ∃ ra rc, e = .returned (.agg #[.int .i64 b, .int .i64 bt, .slice ra es.length rc]) ∧ EnsV w' (fun g => w.heap.size ≤ g) ra rc es ∧ Below w.heap.size w w'
theorem LogP.up {b bt : Int} {es : List En} {w0 w : World} {e : Ending} {w' : World} (h : LogP b bt es w e w') (hb : Below w0.heap.size w0 w) : LogP b bt es w0 e w' := by
  obtain ⟨ra, rc, h1, h2, h3⟩ := h
  exact ⟨ra, rc, h1, h2.sub fun g hg _ => Nat.le_trans hb.size hg, hb.trans (h3.mono hb.size)⟩
/-- What a log's box is when a log is put into it. -/
theorem boxed {w0 w : World} {M : Nat} {u0 u1 u2 v0 v1 v2 : Value} (h : Cell3 w M u0 u1 u2) : Cell3 (((w.setCell ⟨M, 0, none⟩ v0).setCell ⟨M, 1, none⟩ v1).setCell ⟨M, 2, none⟩ v2) M v0 v1 v2 := ((h.put 0 v0).put 1 v1).put 2 v2
theorem boxed_below {B M : Nat} {a w : World} {u0 u1 u2 : Value} (h : Below B a w) (hM : B ≤ M) : Below B a (((w.setCell ⟨M, 0, none⟩ u0).setCell ⟨M, 1, none⟩ u1).setCell ⟨M, 2, none⟩ u2) := three_below (o := 0) h hM
theorem boxed_ens {w : World} {P Q : Nat → Prop} {a : Option Addr} {c : Nat} {es : List En} {M : Nat} {u0 u1 u2 : Value} (h : EnsV w P a c es) (hM : ∀ g, P g → g ≠ M ∧ Q g) : EnsV (((w.setCell ⟨M, 0, none⟩ u0).setCell ⟨M, 1, none⟩ u1).setCell ⟨M, 2, none⟩ u2) Q a c es := h.kept fun g hg _ => ⟨three_other (o := 0) (hM g hg).1, (hM g hg).2⟩
set_option maxRecDepth 100000 in
set_option maxHeartbeats 400000 in
theorem made_any (b bt : Int) (a : Option Addr) (n c : Nat) (ls : List (List En)) (hnl : n = ls.length) (w : World) (hL : LsV w a c ls) (hn : ls.length ≤ 2) (hs : ∀ i, i < ls.length → Small (ls.getD i [])) : Calls Try.prog 55 #[.int .i64 b, .int .i64 bt, .slice a n c] w (LogP b bt ls.flatten w) := by
  subst hnl
  have HC : Hid (∀ o, Calls Try.prog 71 #[.slice a ls.length c] (w.alloc o) fun e w' => ∃ ra rc, e = .returned (.slice ra ls.flatten.length rc) ∧ EnsV w' (fun g => w.heap.size < g) ra rc ls.flatten ∧ Below (w.alloc o).heap.size (w.alloc o) w') := fun o => (copies_any a c ls (w.alloc o) (hL.below ((Below.refl _ _).alloc (Nat.le_refl _) o)) hn hs).mono fun e w' ⟨ra, rc, q1, q2, q3⟩ => ⟨ra, rc, q1, q2.sub fun g hg _ => by rw [size_alloc] at hg; omega, q3⟩
  have HG : Hid (∀ e w', (∃ ra rc, e = .returned (.agg #[.int .i64 b, .int .i64 bt, .slice ra ls.flatten.length rc]) ∧ EnsV w' (fun g => w.heap.size ≤ g) ra rc ls.flatten ∧ Below w.heap.size w w') → LogP b bt ls.flatten w e w') := fun e w' q => q
  generalize ls.flatten = fs at *
  generalize hfl : fs.length = k at *
  generalize ls.length = n at *
  clear hL hs
  go_enter Try.func55, Try.ntmps55
  go_wp2_with (go_at_call 71; refine (HC.out _).mono ?_; rintro e w1 ⟨ra, rc, rfl, HE, HB⟩; have HE1 : Hid (EnsV w1 (fun g => w.heap.size < g) ra rc fs) := HE; have HB1 : Hid (Below w.heap.size w w1) := b1 HB; have HC3 : Hid (Cell3 w1 w.heap.size (.int .i64 0) (.int .i64 0) (.slice none 0 0)) := (Cell3.new w _ _ _ 24).below HB; obtain ⟨z0, z1, z2, z3⟩ := HC3.out; clear HE HB)
  obtain ⟨e0, e1, e2, _⟩ := boxed (w0 := w) (v0 := .int .i64 b) (v1 := .int .i64 bt) (v2 := .slice ra k rc) HC3.out
  exact bodyPost_ret (v := .agg #[.int .i64 b, .int .i64 bt, .slice ra k rc]) (by simp [results, Try.results55, go_sem, e0, e1, e2]) rfl (HG.out _ _ ⟨ra, rc, rfl, boxed_ens HE1.out (fun g hg => ⟨by omega, by omega⟩), boxed_below HB1.out (Nat.le_refl _)⟩)
theorem made1 (b bt : Int) {ka : Option Addr} {kn kc g : Nat} {l : List En} {wx : World} (hE : EnsV wx (fun _ => True) ka kc l) (hn : kn = l.length) (hs : Small l) (hg : g = wx.heap.size) : Calls Try.prog 55 #[.int .i64 b, .int .i64 bt, .slice (some ⟨g, 0, none⟩) 1 1] (wx.alloc (.cells #[.slice ka kn kc] 22)) (LogP b bt l wx) := by
  refine (made_any b bt (some ⟨g, 0, none⟩) 1 1 [l] rfl _ (LsV.one hg hn hE) (by simp) (fun i hi => ?_)).mono fun e w' q => ?_
  · obtain rfl : i = 0 := by simp at hi; omega
    exact hs
  · have := q.up (w0 := wx) ((Below.refl _ _).alloc (Nat.le_refl _) _)
    rw [show [l].flatten = l by simp] at this
    exact this
theorem made2 (b bt : Int) {ka : Option Addr} {kn kc g : Nat} {l : List En} {ja : Option Addr} {jn jc : Nat} {m : List En} {wx : World} (hE : EnsV wx (fun _ => True) ka kc l) (hn : kn = l.length) (hs : Small l) (hE2 : EnsV wx (fun _ => True) ja jc m) (hn2 : jn = m.length) (hs2 : Small m) (hg : g = wx.heap.size) : Calls Try.prog 55 #[.int .i64 b, .int .i64 bt, .slice (some ⟨g, 0, none⟩) 2 2] (wx.alloc (.cells #[.slice ka kn kc, .slice ja jn jc] 22)) (LogP b bt (l ++ m) wx) := by
  refine (made_any b bt (some ⟨g, 0, none⟩) 2 2 [l, m] rfl _ (LsV.two hg hn hE hn2 hE2) (by simp) (fun i hi => ?_)).mono fun e w' q => ?_
  · have : i = 0 ∨ i = 1 := by simp at hi; omega
    rcases this with rfl | rfl
    · exact hs
    · exact hs2
  · have := q.up (w0 := wx) ((Below.refl _ _).alloc (Nat.le_refl _) _)
    rw [show [l, m].flatten = l ++ m by simp] at this
    exact this
theorem two_size (w : World) (o o2 : Obj) : ((w.alloc o).alloc o2).heap.size = w.heap.size + 1 + 1 := by rw [size_alloc, size_alloc]
/-- A log that was made lies apart from a box of an elder world. -/
theorem LogP.box {b bt : Int} {es : List En} {w0 wx : World} {M : Nat} {u0 u1 u2 v0 v1 : Value} {ra : Option Addr} {rc : Nat} {w' : World} (hE : EnsV w' (fun g => wx.heap.size ≤ g) ra rc es) (hB : Below wx.heap.size wx w') (hb : Below w0.heap.size w0 wx) (hC : Cell3 wx M u0 u1 u2) (hM : w0.heap.size ≤ M) : LogP b bt es w0 (.returned (.agg #[.int .i64 b, .int .i64 bt, .slice ra es.length rc])) (((w'.setCell ⟨M, 0, none⟩ v0).setCell ⟨M, 1, none⟩ v1).setCell ⟨M, 2, none⟩ (.slice ra es.length rc)) := by
  have hl := hC.lt
  have hs := hb.size
  exact ⟨ra, rc, rfl, boxed_ens hE (fun g hg => ⟨by omega, by omega⟩), boxed_below (hb.trans (hB.mono hs)) hM⟩
set_option maxRecDepth 100000 in
set_option maxHeartbeats 400000 in
theorem Copy_any (P : Nat → Prop) (b bt : Int) (a : Option Addr) (c : Nat) (es : List En) (w : World) (hE : EnsV w P a c es) (hs : Small es) : Calls Try.prog 30 #[.agg #[.int .i64 b, .int .i64 bt, .slice a es.length c]] w (LogP b bt es w) := by
  have HM : Hid (∀ o o2, Calls Try.prog 55 #[.int .i64 b, .int .i64 bt, .slice (some ⟨w.heap.size + 1 + 1, 0, none⟩) 1 1] (((w.alloc o).alloc o2).alloc (.cells #[.slice a es.length c] 22)) (LogP b bt es ((w.alloc o).alloc o2))) := fun o o2 => made1 b bt ((hE.all.alloc o).alloc o2) rfl hs (two_size _ _ _).symm
  have HG : Hid (∀ wx w' ra rc u0 u1 u2, EnsV w' (fun g => wx.heap.size ≤ g) ra rc es → Below wx.heap.size wx w' → Below w.heap.size w wx → Cell3 wx (w.heap.size + 1) u0 u1 u2 → LogP b bt es w (.returned (.agg #[.int .i64 b, .int .i64 bt, .slice ra es.length rc])) (((w'.setCell ⟨w.heap.size + 1, 0, none⟩ (.int .i64 b)).setCell ⟨w.heap.size + 1, 1, none⟩ (.int .i64 bt)).setCell ⟨w.heap.size + 1, 2, none⟩ (.slice ra es.length rc))) := fun wx w' ra rc u0 u1 u2 q1 q2 q3 q4 => LogP.box q1 q2 q3 q4 (Nat.le_succ _)
  clear hE hs
  generalize hn : es.length = n at *
  go_enter Try.func30, Try.ntmps30
  go_wp2_with (go_at_call 55; refine (HM.out _ _).mono ?_; rintro e w1 ⟨ra, rc, rfl, HE, HB⟩; rw [hn]; have HE1 : Hid (EnsV w1 (fun g => ((w.alloc (.cells #[.int .i64 b, .int .i64 bt, .slice a n c] 24)).alloc (.cells #[.int .i64 0, .int .i64 0, .slice none 0 0] 24)).heap.size ≤ g) ra rc es ∧ Below ((w.alloc (.cells #[.int .i64 b, .int .i64 bt, .slice a n c] 24)).alloc (.cells #[.int .i64 0, .int .i64 0, .slice none 0 0] 24)).heap.size ((w.alloc (.cells #[.int .i64 b, .int .i64 bt, .slice a n c] 24)).alloc (.cells #[.int .i64 0, .int .i64 0, .slice none 0 0] 24)) w1) := ⟨HE, HB⟩; have HC3 : Hid (Cell3 w1 (w.heap.size + 1) (.int .i64 0) (.int .i64 0) (.slice none 0 0)) := (Cell3.second w _ _ _ _ 24).below HB; obtain ⟨z0, z1, z2, z3⟩ := HC3.out; clear HE HB)
  obtain ⟨e0, e1, e2, _⟩ := boxed (w0 := w) (v0 := .int .i64 b) (v1 := .int .i64 bt) (v2 := .slice ra n rc) HC3.out
  exact bodyPost_ret (v := .agg #[.int .i64 b, .int .i64 bt, .slice ra n rc]) (by simp [results, Try.results30, go_sem, e0, e1, e2]) rfl (HG.out _ _ _ _ _ _ _ HE1.out.1 HE1.out.2 (below2 _ _ _) (Cell3.second w _ _ _ _ 24))
end
section
open Go.RowKit
set_option linter.unusedVariables false


/-- A log that was made, and a number. -/
def LogN (b bt : Int) (es : List En) (k : Int) (w : World) (e : Ending) (w' : World) : Prop := ∃ ra rc, e = .returned (.tuple #[.agg #[.int .i64 b, .int .i64 bt, .slice ra es.length rc], .int .i64 k]) ∧ EnsV w' (fun g => w.heap.size ≤ g) ra rc es ∧ Below w.heap.size w w'
theorem small_drop {es : List En} (h : Small es) (k : Nat) : Small (es.drop k) := ⟨by rw [List.length_drop]; have := h.1; omega, fun j hj => by
  rw [List.length_drop] at hj
  rw [getD_drop]
  exact h.2 _ (by omega)⟩
theorem small_take {es : List En} (h : Small es) (k : Nat) : Small (es.take k) := ⟨by rw [List.length_take]; have := h.1; omega, fun j hj => by
  rw [List.length_take] at hj
  rw [getD_take (by omega)]
  exact h.2 _ (by omega)⟩
theorem EnsV.drop0 {w : World} {P : Nat → Prop} {a : Option Addr} {c : Nat} {es : List En} (h : EnsV w P a c es) {k : Nat} (hk : k ≤ es.length) (hc : c = k) : EnsV w P a 0 (es.drop k) := by
  have := h.drop hk
  rw [if_pos hc, show c - k = 0 by omega] at this
  exact this
theorem EnsV.dropN {w : World} {P : Nat → Prop} {a : Option Addr} {c : Nat} {es : List En} (h : EnsV w P a c es) {k : Nat} (hk : k ≤ es.length) (hc : ¬ c = k) : EnsV w P (Option.map (fun x => x.add (k * 2)) a) (c - k) (es.drop k) := by
  have := h.drop hk
  rw [if_neg hc] at this
  exact this
theorem LogN.box {b bt : Int} {es : List En} {k : Int} {w0 wx : World} {M : Nat} {u0 u1 u2 v0 v1 : Value} {ra : Option Addr} {rc : Nat} {w' : World} (hE : EnsV w' (fun g => wx.heap.size ≤ g) ra rc es) (hB : Below wx.heap.size wx w') (hb : Below w0.heap.size w0 wx) (hC : Cell3 wx M u0 u1 u2) (hM : w0.heap.size ≤ M) : LogN b bt es k w0 (.returned (.tuple #[.agg #[.int .i64 b, .int .i64 bt, .slice ra es.length rc], .int .i64 k])) (((w'.setCell ⟨M, 0, none⟩ v0).setCell ⟨M, 1, none⟩ v1).setCell ⟨M, 2, none⟩ (.slice ra es.length rc)) := by
  have hl := hC.lt
  have hs := hb.size
  exact ⟨ra, rc, rfl, boxed_ens hE (fun g hg => ⟨by omega, by omega⟩), boxed_below (hb.trans (hB.mono hs)) hM⟩
set_option maxRecDepth 100000 in
set_option maxHeartbeats 800000 in
theorem Compact_any (P : Nat → Prop) (b bt : Int) (a : Option Addr) (c : Nat) (es : List En) (p : Int) (w : World) (hb : 0 ≤ b) (hb2 : b ≤ 2199023255552) (hp : InR p) (hE : EnsV w P a c es) (hs : Small es) : Calls Try.prog 50 #[.agg #[.int .i64 b, .int .i64 bt, .slice a es.length c], .int .i64 p] w (LogN (compM b bt es p).1.1 (compM b bt es p).1.2.1 (compM b bt es p).1.2.2 (compM b bt es p).2 w) := by
  have h1 := hE.cap1
  have h2 := hE.cap2
  have h3 := hs.1
  have HT : Hid (∀ o o2, Calls Try.prog 54 #[.agg #[.int .i64 b, .int .i64 bt, .slice a es.length c], .int .i64 p] ((w.alloc o).alloc o2) fun e w' => e = .returned (.tuple #[.int .i64 (termM b bt es p).1, .bool (termM b bt es p).2]) ∧ Below ((w.alloc o).alloc o2).heap.size ((w.alloc o).alloc o2) w') := fun o o2 => Term_any P b bt a c es p _ hb hb2 (by omega) hp ((hE.alloc o).alloc o2)
  obtain ⟨p1, p2⟩ := hp
  cases ht : (termM b bt es p).2 with
  | false =>
    have e1 : compM b bt es p = ((0, 0, []), 2) := by unfold compM; rw [if_neg (by rw [ht]; decide)]
    rw [e1]
    rw [ht] at HT
    have HG : Hid (∀ w', Below w.heap.size w w' → LogN 0 0 [] 2 w (.returned (.tuple #[.agg #[.int .i64 0, .int .i64 0, .slice none 0 0], .int .i64 2])) w') := fun w' q => ⟨none, 0, rfl, EnsV.nil _ _, q⟩
    generalize (termM b bt es p).1 = x at *
    generalize es.length = n at *
    clear hE hs e1
    go_enter Try.func50, Try.ntmps50
    go_wp2_with (go_at_call 54; refine (HT.out _ _).mono ?_; rintro e w1 ⟨rfl, HB⟩; have HC1 := (Bx2.new w b bt (.slice a n c) 0 0 (.slice none 0 0)).below HB; have H1 : Hid (Below w.heap.size w w1 ∧ Cell3 w1 (w.heap.size + 1) (.int .i64 0) (.int .i64 0) (.slice none 0 0)) := ⟨b2 HB, HC1.g⟩; obtain ⟨z4, z5, z6, z7⟩ := H1.out.2; clear HB HC1)
    obtain ⟨e0, e1, e2, _⟩ := boxed (w0 := w) (v0 := .int .i64 0) (v1 := .int .i64 0) (v2 := .slice none 0 0) H1.out.2
    exact bodyPost_ret (v := .tuple #[.agg #[.int .i64 0, .int .i64 0, .slice none 0 0], .int .i64 2]) (by simp [results, Try.results50, go_sem, e0, e1, e2]) rfl (HG.out _ (boxed_below H1.out.1 (Nat.le_succ _)))
  | true =>
    have e1 : compM b bt es p = ((p, (termM b bt es p).1, es.drop (p - b).toNat), 0) := by unfold compM; rw [if_pos ht]
    rw [e1]
    obtain ⟨w1, w2⟩ := term_where ht
    rw [ht] at HT
    obtain ⟨k, hk⟩ : ∃ k, (p - b).toNat = k := ⟨_, rfl⟩
    have hkl : k ≤ es.length := by omega
    rw [hk]
    generalize (termM b bt es p).1 = x at *
    clear e1 ht
    generalize hn0 : es.length = n at *
    have hsf := small_drop hs k
    have hfl : (es.drop k).length = n - k := by rw [List.length_drop, hn0]
    have HDD : Hid (∀ wx, Below w.heap.size w wx → (c = k → EnsV wx (fun _ => True) a 0 (es.drop k)) ∧ (¬ c = k → EnsV wx (fun _ => True) (Option.map (fun x => x.add (k * 2)) a) (c - k) (es.drop k))) := fun wx q => ⟨fun e => (hE.all.below q).drop0 (by omega) e, fun e => (hE.all.below q).dropN (by omega) e⟩
    clear hs
    generalize es.drop k = fs at *
    by_cases hck : c = k
    · have hnk : n = k := by omega
      have HD : Hid (∀ wx, Below w.heap.size w wx → EnsV wx (fun _ => True) a 0 fs) := fun wx q => (HDD.out wx q).1 hck
      have HLen : Hid (fs.length = 0) := by show _ = _; omega
      clear HDD hfl
      have hck2 : c = n := by omega
      subst hck2
      subst hnk
      have HM : Hid (∀ wx, Below w.heap.size w wx → Calls Try.prog 55 #[.int .i64 p, .int .i64 x, .slice (some ⟨wx.heap.size, 0, none⟩) 1 1] (wx.alloc (.cells #[.slice a (0) 0] 22)) (LogP p x (fs) wx)) := fun wx q => made1 p x (HD.out wx q) HLen.out.symm hsf rfl
      have HG : Hid (∀ wx w' ra rc u0 u1 u2, EnsV w' (fun g => wx.heap.size ≤ g) ra rc (fs) → Below wx.heap.size wx w' → Below w.heap.size w wx → Cell3 wx (w.heap.size + 1) u0 u1 u2 → LogN p x (fs) 0 w (.returned (.tuple #[.agg #[.int .i64 p, .int .i64 x, .slice ra (0) rc], .int .i64 0])) (((w'.setCell ⟨w.heap.size + 1, 0, none⟩ (.int .i64 p)).setCell ⟨w.heap.size + 1, 1, none⟩ (.int .i64 x)).setCell ⟨w.heap.size + 1, 2, none⟩ (.slice ra (0) rc))) := fun wx w' ra rc u0 u1 u2 q1 q2 q3 q4 => by
        have q5 := LogN.box (b := p) (bt := x) (k := 0) (v0 := .int .i64 p) (v1 := .int .i64 x) q1 q2 q3 q4 (Nat.le_succ _)
        rw [HLen.out] at q5
        exact q5
      clear HD hsf hn0 hE
      go_enter Try.func50, Try.ntmps50
      go_wp2_with (first
        | (go_at_call 55; have := H1; refine (HM.out _ H1.out.1).mono ?_; rintro e w2 ⟨ra, rc, rfl, HE, HB⟩; rw [HLen.out]; have H2 : Hid (EnsV w2 (fun g => w1.heap.size ≤ g) ra rc fs ∧ Below w1.heap.size w1 w2 ∧ Cell3 w2 (w.heap.size + 1) (.int .i64 0) (.int .i64 0) (.slice none 0 0)) := ⟨HE, HB, H1.out.2.below HB⟩; obtain ⟨y0, y1, y2, y3⟩ := H2.out.2.2; clear HE HB)
        | (go_at_call 54; refine (HT.out _ _).mono ?_; rintro e w1 ⟨rfl, HB⟩; have HC1 := (Bx2.new w b bt (.slice a c c) 0 0 (.slice none 0 0)).below HB; have H1 : Hid (Below w.heap.size w w1 ∧ Cell3 w1 (w.heap.size + 1) (.int .i64 0) (.int .i64 0) (.slice none 0 0)) := ⟨b2 HB, HC1.g⟩; obtain ⟨z0, z1, z2, z3⟩ := HC1.f; obtain ⟨z4, z5, z6, z7⟩ := H1.out.2; clear HB HC1))
      obtain ⟨e0, e1, e2, _⟩ := boxed (w0 := w) (v0 := .int .i64 p) (v1 := .int .i64 x) (v2 := .slice ra (0) rc) H2.out.2.2
      exact bodyPost_ret (v := .tuple #[.agg #[.int .i64 p, .int .i64 x, .slice ra (0) rc], .int .i64 0]) (by simp [results, Try.results50, go_sem, e0, e1, e2]) rfl (HG.out _ _ _ _ _ _ _ H2.out.1 H2.out.2.1 H1.out.1 H1.out.2)
    · have HD : Hid (∀ wx, Below w.heap.size w wx → EnsV wx (fun _ => True) (Option.map (fun x => x.add (k * 2)) a) (c - k) fs) := fun wx q => (HDD.out wx q).2 hck
      have HLen : Hid (fs.length = n - k) := hfl
      clear HDD hfl
      have HM : Hid (∀ wx, Below w.heap.size w wx → Calls Try.prog 55 #[.int .i64 p, .int .i64 x, .slice (some ⟨wx.heap.size, 0, none⟩) 1 1] (wx.alloc (.cells #[.slice (Option.map (fun x => x.add (k * 2)) a) (n - k) (c - k)] 22)) (LogP p x (fs) wx)) := fun wx q => made1 p x (HD.out wx q) HLen.out.symm hsf rfl
      have HG : Hid (∀ wx w' ra rc u0 u1 u2, EnsV w' (fun g => wx.heap.size ≤ g) ra rc (fs) → Below wx.heap.size wx w' → Below w.heap.size w wx → Cell3 wx (w.heap.size + 1) u0 u1 u2 → LogN p x (fs) 0 w (.returned (.tuple #[.agg #[.int .i64 p, .int .i64 x, .slice ra (n - k) rc], .int .i64 0])) (((w'.setCell ⟨w.heap.size + 1, 0, none⟩ (.int .i64 p)).setCell ⟨w.heap.size + 1, 1, none⟩ (.int .i64 x)).setCell ⟨w.heap.size + 1, 2, none⟩ (.slice ra (n - k) rc))) := fun wx w' ra rc u0 u1 u2 q1 q2 q3 q4 => by
        have q5 := LogN.box (b := p) (bt := x) (k := 0) (v0 := .int .i64 p) (v1 := .int .i64 x) q1 q2 q3 q4 (Nat.le_succ _)
        rw [HLen.out] at q5
        exact q5
      clear HD hsf hn0 hE
      go_enter Try.func50, Try.ntmps50
      go_wp2_with (first
        | (go_at_call 55; have := H1; refine (HM.out _ H1.out.1).mono ?_; rintro e w2 ⟨ra, rc, rfl, HE, HB⟩; rw [HLen.out]; have H2 : Hid (EnsV w2 (fun g => w1.heap.size ≤ g) ra rc fs ∧ Below w1.heap.size w1 w2 ∧ Cell3 w2 (w.heap.size + 1) (.int .i64 0) (.int .i64 0) (.slice none 0 0)) := ⟨HE, HB, H1.out.2.below HB⟩; obtain ⟨y0, y1, y2, y3⟩ := H2.out.2.2; clear HE HB)
        | (go_at_call 54; refine (HT.out _ _).mono ?_; rintro e w1 ⟨rfl, HB⟩; have HC1 := (Bx2.new w b bt (.slice a n c) 0 0 (.slice none 0 0)).below HB; have H1 : Hid (Below w.heap.size w w1 ∧ Cell3 w1 (w.heap.size + 1) (.int .i64 0) (.int .i64 0) (.slice none 0 0)) := ⟨b2 HB, HC1.g⟩; obtain ⟨z0, z1, z2, z3⟩ := HC1.f; obtain ⟨z4, z5, z6, z7⟩ := H1.out.2; clear HB HC1))
      obtain ⟨e0, e1, e2, _⟩ := boxed (w0 := w) (v0 := .int .i64 p) (v1 := .int .i64 x) (v2 := .slice ra (n - k) rc) H2.out.2.2
      exact bodyPost_ret (v := .tuple #[.agg #[.int .i64 p, .int .i64 x, .slice ra (n - k) rc], .int .i64 0]) (by simp [results, Try.results50, go_sem, e0, e1, e2]) rfl (HG.out _ _ _ _ _ _ _ H2.out.1 H2.out.2.1 H1.out.1 H1.out.2)
end
section
open Go.RowKit
set_option linter.unusedVariables false


theorem copies1 {ka : Option Addr} {kn kc g : Nat} {l : List En} {wx : World} (hE : EnsV wx (fun _ => True) ka kc l) (hn : kn = l.length) (hs : Small l) (hg : g = wx.heap.size) : Calls Try.prog 71 #[.slice (some ⟨g, 0, none⟩) 1 1] (wx.alloc (.cells #[.slice ka kn kc] 22)) fun e w' => ∃ ra rc, e = .returned (.slice ra l.length rc) ∧ EnsV w' (fun g => wx.heap.size ≤ g) ra rc l ∧ Below wx.heap.size wx w' := by
  refine (copies_any (some ⟨g, 0, none⟩) 1 [l] _ (LsV.one hg hn hE) (by simp) (fun i hi => ?_)).mono fun e w' ⟨ra, rc, q1, q2, q3⟩ => ?_
  · obtain rfl : i = 0 := by simp at hi; omega
    exact hs
  · rw [show [l].flatten = l by simp] at q1 q2
    exact ⟨ra, rc, q1, (q2.sub fun g hg _ => Nat.le_trans (le_alloc _ _) hg), b1 q3⟩
def FromP (fs : List En) (w : World) (e : Ending) (w' : World) : Prop := ∃ ra rc, e = .returned (.slice ra fs.length rc) ∧ EnsV w' (fun g => w.heap.size ≤ g) ra rc fs ∧ Below w.heap.size w w'
theorem FromP.none {w w' : World} (h : Below w.heap.size w w') : FromP [] w (.returned (.slice none 0 0)) w' := ⟨_, _, rfl, EnsV.nil _ _, h⟩
set_option maxRecDepth 100000 in
set_option maxHeartbeats 800000 in
theorem From_any (P : Nat → Prop) (b bt : Int) (a : Option Addr) (c : Nat) (es : List En) (p q : Int) (w : World) (hb : 0 ≤ b) (hb2 : b ≤ 2199023255552) (hp : InR p) (hq : InR q) (hE : EnsV w P a c es) (hs : Small es) : Calls Try.prog 80 #[.agg #[.int .i64 b, .int .i64 bt, .slice a es.length c], .int .i64 p, .int .i64 q] w (FromP (fromM b es p q) w) := by
  have h1 := hE.cap1
  have h2 := hE.cap2
  have h3 := hs.1
  obtain ⟨p1, p2⟩ := hp
  obtain ⟨q1, q2⟩ := hq
  have HL : Hid (∀ wx, Calls Try.prog 49 #[.agg #[.int .i64 b, .int .i64 bt, .slice a es.length c]] wx fun e w' => e = .returned (.int .i64 (b + es.length)) ∧ Below wx.heap.size wx w') := fun wx => Last_any b bt a es.length c wx hb hb2 (by omega)
  have HB0 : Hid (∀ o, Below w.heap.size w (w.alloc o)) := fun o => (Below.refl _ _).alloc (Nat.le_refl _) o
  by_cases c1 : p ≤ b
  · rw [show fromM b es p q = [] from if_pos c1]
    generalize es.length = n at *
    clear hE hs
    go_enter Try.func80, Try.ntmps80
    go_wp2
    go_ret
    exact FromP.none (HB0.out _)
  have d1 : decide (p ≤ b) = false := decide_eq_false c1
  have e0 : fromM b es p q = (es.drop (p - b - 1).toNat).take q.toNat := if_neg c1
  by_cases c2 : b + es.length < p
  · rw [e0, List.drop_of_length_le (by omega), List.take_nil]
    have d2 : decide (b + (es.length : Int) < p) = true := decide_eq_true c2
    generalize es.length = n at *
    clear hE hs e0
    go_enter Try.func80, Try.ntmps80
    go_wp2_with (go_at_call 49; refine (HL.out _).mono ?_; rintro e w1 ⟨rfl, HB⟩; have H1 : Hid (Below w.heap.size w w1) := b1 HB; clear HB)
    go_ret
    exact FromP.none H1.out
  have d2 : decide (b + (es.length : Int) < p) = false := decide_eq_false c2
  by_cases c3 : q ≤ 0
  · rw [e0, show q.toNat = 0 by omega, List.take_zero]
    generalize es.length = n at *
    clear hE hs e0
    go_enter Try.func80, Try.ntmps80
    go_wp2_with (go_at_call 49; refine (HL.out _).mono ?_; rintro e w1 ⟨rfl, HB⟩; have H1 : Hid (Below w.heap.size w w1) := b1 HB; clear HB)
    go_ret
    exact FromP.none H1.out
  have d3 : decide (q ≤ 0) = false := decide_eq_false c3
  obtain ⟨k, hk⟩ : ∃ k, (p - b - 1).toNat = k := ⟨_, rfl⟩
  have hk2 : (p - b).toNat - 1 = k := by omega
  have hkn : k < es.length := by omega
  have hck : ¬ c = k := by omega
  rw [e0, hk]
  obtain ⟨sa, hsa⟩ : ∃ sa, Option.map (fun x => x.add (k * 2)) a = sa := ⟨_, rfl⟩
  have hid : Option.map (fun x => x) sa = sa := by cases sa <;> rfl
  have hfl : ((es.drop k).take q.toNat).length = min q.toNat (es.length - k) := by rw [List.length_take, List.length_drop]
  have hsf := small_take (small_drop hs k) q.toNat
  have HFs : Hid (∀ wx, Below w.heap.size w wx → EnsV wx (fun _ => True) sa (c - k) ((es.drop k).take q.toNat)) := fun wx h => by
    have q5 := (hE.all.below h).dropN (k := k) (by omega) hck
    rw [hsa] at q5
    by_cases hm : q.toNat ≤ (es.drop k).length
    · exact q5.take hm
    · rw [List.take_of_length_le (by omega)]; exact q5
  generalize (es.drop k).take q.toNat = fs at *
  clear hE hs e0
  generalize es.length = n at *
  by_cases hm : q ≤ ((n - k : Nat) : Int)
  · have hm2 : q.toNat ≤ n - k := by omega
    have HC : Hid (∀ wx, Below w.heap.size w wx → Calls Try.prog 71 #[.slice (some ⟨wx.heap.size, 0, none⟩) 1 1] (wx.alloc (.cells #[.slice sa q.toNat (c - k)] 22)) fun e w' => ∃ ra rc, e = .returned (.slice ra fs.length rc) ∧ EnsV w' (fun g => wx.heap.size ≤ g) ra rc fs ∧ Below wx.heap.size wx w') := fun wx h => copies1 ((HFs.out wx h)) (by omega) hsf rfl
    have HG : Hid (∀ e w', (∃ ra rc, e = .returned (.slice ra fs.length rc) ∧ EnsV w' (fun g => w.heap.size ≤ g) ra rc fs ∧ Below w.heap.size w w') → FromP fs w e w') := fun e w' q => q
    clear HFs hsf
    generalize hfl2 : fs.length = fl at *
    clear hfl
    go_enter Try.func80, Try.ntmps80
    go_wp2_with (first
      | (go_at_call 71; have := H1; refine (HC.out _ H1.out).mono ?_; rintro e w2 ⟨ra, rc, rfl, HE, HB⟩; have H2 : Hid (EnsV w2 (fun g => w.heap.size ≤ g) ra rc fs ∧ Below w.heap.size w w2) := ⟨HE.sub (fun g hg _ => Nat.le_trans H1.out.size hg), H1.out.trans (HB.mono H1.out.size)⟩; clear HE HB)
      | (go_at_call 49; refine (HL.out _).mono ?_; rintro e w1 ⟨rfl, HB⟩; have H1 : Hid (Below w.heap.size w w1) := b1 HB; obtain ⟨z0, z1, z2, z3⟩ := (Cell3.new w (.int .i64 b) (.int .i64 bt) (.slice a n c) 24).below HB; clear HB))
    go_ret
    exact HG.out _ _ ⟨ra, rc, rfl, H2.out.1, H2.out.2⟩
  · have hm2 : ((n - k : Nat) : Int) < q := by omega
    have HC : Hid (∀ wx, Below w.heap.size w wx → Calls Try.prog 71 #[.slice (some ⟨wx.heap.size, 0, none⟩) 1 1] (wx.alloc (.cells #[.slice sa (n - k) (c - k)] 22)) fun e w' => ∃ ra rc, e = .returned (.slice ra fs.length rc) ∧ EnsV w' (fun g => wx.heap.size ≤ g) ra rc fs ∧ Below wx.heap.size wx w') := fun wx h => copies1 ((HFs.out wx h)) (by omega) hsf rfl
    have HG : Hid (∀ e w', (∃ ra rc, e = .returned (.slice ra fs.length rc) ∧ EnsV w' (fun g => w.heap.size ≤ g) ra rc fs ∧ Below w.heap.size w w') → FromP fs w e w') := fun e w' q => q
    clear HFs hsf
    generalize hfl2 : fs.length = fl at *
    clear hfl
    go_enter Try.func80, Try.ntmps80
    go_wp2_with (first
      | (go_at_call 71; have := H1; refine (HC.out _ H1.out).mono ?_; rintro e w2 ⟨ra, rc, rfl, HE, HB⟩; have H2 : Hid (EnsV w2 (fun g => w.heap.size ≤ g) ra rc fs ∧ Below w.heap.size w w2) := ⟨HE.sub (fun g hg _ => Nat.le_trans H1.out.size hg), H1.out.trans (HB.mono H1.out.size)⟩; clear HE HB)
      | (go_at_call 49; refine (HL.out _).mono ?_; rintro e w1 ⟨rfl, HB⟩; have H1 : Hid (Below w.heap.size w w1) := b1 HB; obtain ⟨z0, z1, z2, z3⟩ := (Cell3.new w (.int .i64 b) (.int .i64 bt) (.slice a n c) 24).below HB; clear HB))
    go_ret
    exact HG.out _ _ ⟨ra, rc, rfl, H2.out.1, H2.out.2⟩
end
end Go.Proofs.Ytfmfphfckaiejaa

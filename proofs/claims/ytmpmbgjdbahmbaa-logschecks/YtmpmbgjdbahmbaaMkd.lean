/-
  The program's made, Copy, From, Behind, Compact, Reset: contracts.
-/
import Derived.Test.YtmpmbgjdbahmbaaCop
import Derived.Test.YtmpmbgjdbahmbaaSme
namespace Go.Proofs.Ytmpmbgjdbahmbaa
open Go.RowKit
set_option linter.unusedVariables false

/-- A log that was made. -/
def LogP (b bt : Int) (es : List En) (w : World) (e : Ending) (w' : World) : Prop := ∃ ra rc, e = .returned (.agg #[.int .i64 b, .int .i64 bt, .slice ra es.length rc]) ∧ EnsV w' (fun g => w.heap.size ≤ g) ra rc es ∧ Below w.heap.size w w'
theorem LogP.up {b bt : Int} {es : List En} {w0 w : World} {e : Ending} {w' : World} (h : LogP b bt es w e w') (hb : Below w0.heap.size w0 w) : LogP b bt es w0 e w' := by
  obtain ⟨ra, rc, h1, h2, h3⟩ := h
  exact ⟨ra, rc, h1, h2.sub fun g hg _ => Nat.le_trans hb.size hg, hb.trans (h3.mono hb.size)⟩
/-- What a log's box is when a log is put into it. -/
theorem boxed {w0 w : World} {M : Nat} {u0 u1 u2 v0 v1 v2 : Value} (h : Cell3 w M u0 u1 u2) : Cell3 (((w.setCell ⟨M, 0, none⟩ v0).setCell ⟨M, 1, none⟩ v1).setCell ⟨M, 2, none⟩ v2) M v0 v1 v2 := ((h.put 0 v0).put 1 v1).put 2 v2
theorem boxed_below {B M : Nat} {a w : World} {u0 u1 u2 : Value} (h : Below B a w) (hM : B ≤ M) : Below B a (((w.setCell ⟨M, 0, none⟩ u0).setCell ⟨M, 1, none⟩ u1).setCell ⟨M, 2, none⟩ u2) := three_below (o := 0) h hM
theorem boxed_ens {w : World} {P Q : Nat → Prop} {a : Option Addr} {c : Nat} {es : List En} {M : Nat} {u0 u1 u2 : Value} (h : EnsV w P a c es) (hM : ∀ g, P g → g ≠ M ∧ Q g) : EnsV (((w.setCell ⟨M, 0, none⟩ u0).setCell ⟨M, 1, none⟩ u1).setCell ⟨M, 2, none⟩ u2) Q a c es := h.kept fun g hg _ => ⟨three_other (o := 0) (hM g hg).1, (hM g hg).2⟩
def zL : Obj := .cells #[.int .i64 0, .int .i64 0, .slice none 0 0] 24
set_option maxRecDepth 100000 in
set_option maxHeartbeats 400000 in
theorem made_any (b bt : Int) (a : Option Addr) (n c : Nat) (ls : List (List En)) (hnl : n = ls.length) (w : World) (hL : LsV w a c ls) (hn : ls.length ≤ 2) (hs : ∀ i, i < ls.length → Small (ls.getD i [])) : Calls Try.prog 38 #[.int .i64 b, .int .i64 bt, .slice a n c] w (LogP b bt ls.flatten w) := by
  subst hnl
  have HC : Hid (∀ o, Calls Try.prog 39 #[.slice a ls.length c] (w.alloc o) fun e w' => ∃ ra rc, e = .returned (.slice ra ls.flatten.length rc) ∧ EnsV w' (fun g => w.heap.size < g) ra rc ls.flatten ∧ Below (w.alloc o).heap.size (w.alloc o) w') := fun o => (copies_any a c ls (w.alloc o) (hL.below ((Below.refl _ _).alloc (Nat.le_refl _) o)) hn hs).mono fun e w' ⟨ra, rc, q1, q2, q3⟩ => ⟨ra, rc, q1, q2.sub fun g hg _ => by rw [size_alloc] at hg; omega, q3⟩
  have HG : Hid (∀ e w', (∃ ra rc, e = .returned (.agg #[.int .i64 b, .int .i64 bt, .slice ra ls.flatten.length rc]) ∧ EnsV w' (fun g => w.heap.size ≤ g) ra rc ls.flatten ∧ Below w.heap.size w w') → LogP b bt ls.flatten w e w') := fun e w' q => q
  generalize ls.flatten = fs at *
  generalize hfl : fs.length = k at *
  generalize ls.length = n at *
  clear hL hs
  go_enter Try.func38, Try.ntmps38
  go_wp2_with (go_at_call 39; refine (HC.out _).mono ?_; rintro e w1 ⟨ra, rc, rfl, HE, HB⟩; have HE1 : Hid (EnsV w1 (fun g => w.heap.size < g) ra rc fs) := HE; have HB1 : Hid (Below w.heap.size w w1) := b1 HB; have HC3 : Hid (Cell3 w1 w.heap.size (.int .i64 0) (.int .i64 0) (.slice none 0 0)) := (Cell3.new w _ _ _ 24).below HB; obtain ⟨z0, z1, z2, z3⟩ := HC3.out; clear HE HB)
  obtain ⟨e0, e1, e2, _⟩ := boxed (w0 := w) (v0 := .int .i64 b) (v1 := .int .i64 bt) (v2 := .slice ra k rc) HC3.out
  exact bodyPost_ret (v := .agg #[.int .i64 b, .int .i64 bt, .slice ra k rc]) (by simp [results, Try.results38, go_sem, e0, e1, e2]) rfl (HG.out _ _ ⟨ra, rc, rfl, boxed_ens HE1.out (fun g hg => ⟨by omega, by omega⟩), boxed_below HB1.out (Nat.le_refl _)⟩)
theorem made1 (b bt : Int) {ka : Option Addr} {kn kc g : Nat} {l : List En} {wx : World} (hE : EnsV wx (fun _ => True) ka kc l) (hn : kn = l.length) (hs : Small l) (hg : g = wx.heap.size) : Calls Try.prog 38 #[.int .i64 b, .int .i64 bt, .slice (some ⟨g, 0, none⟩) 1 1] (wx.alloc (.cells #[.slice ka kn kc] 22)) (LogP b bt l wx) := by
  refine (made_any b bt (some ⟨g, 0, none⟩) 1 1 [l] rfl _ (LsV.one hg hn hE) (by simp) (fun i hi => ?_)).mono fun e w' q => ?_
  · obtain rfl : i = 0 := by simp at hi; omega
    exact hs
  · have := q.up (w0 := wx) ((Below.refl _ _).alloc (Nat.le_refl _) _)
    rw [show [l].flatten = l by simp] at this
    exact this
theorem made2 (b bt : Int) {ka : Option Addr} {kn kc g : Nat} {l : List En} {ja : Option Addr} {jn jc : Nat} {m : List En} {wx : World} (hE : EnsV wx (fun _ => True) ka kc l) (hn : kn = l.length) (hs : Small l) (hE2 : EnsV wx (fun _ => True) ja jc m) (hn2 : jn = m.length) (hs2 : Small m) (hg : g = wx.heap.size) : Calls Try.prog 38 #[.int .i64 b, .int .i64 bt, .slice (some ⟨g, 0, none⟩) 2 2] (wx.alloc (.cells #[.slice ka kn kc, .slice ja jn jc] 22)) (LogP b bt (l ++ m) wx) := by
  refine (made_any b bt (some ⟨g, 0, none⟩) 2 2 [l, m] rfl _ (LsV.two hg hn hE hn2 hE2) (by simp) (fun i hi => ?_)).mono fun e w' q => ?_
  · have : i = 0 ∨ i = 1 := by simp at hi; omega
    rcases this with rfl | rfl
    · exact hs
    · exact hs2
  · have := q.up (w0 := wx) ((Below.refl _ _).alloc (Nat.le_refl _) _)
    rw [show [l, m].flatten = l ++ m by simp] at this
    exact this
theorem two_size (w : World) (o o2 : Obj) : ((w.alloc o).alloc o2).heap.size = w.heap.size + 1 + 1 := by rw [size_alloc, size_alloc]
/-- A log that was made lies apart from a box of an elder world. -/
theorem LogP.box {b bt : Int} {es : List En} {w0 wx : World} {M : Nat} {u0 u1 u2 v0 v1 : Value} {ra : Option Addr} {rc : Nat} {w' : World} (hE : EnsV w' (fun g => wx.heap.size ≤ g) ra rc es) (hB : Below wx.heap.size wx w') (hb : Below w0.heap.size w0 wx) (hC : Cell3 wx M u0 u1 u2) (hM : w0.heap.size ≤ M) : LogP b bt es w0 (.returned (.agg #[.int .i64 b, .int .i64 bt, .slice ra es.length rc])) (((w'.setCell ⟨M, 0, none⟩ v0).setCell ⟨M, 1, none⟩ v1).setCell ⟨M, 2, none⟩ (.slice ra es.length rc)) := by
  have hl := hC.lt
  have hs := hb.size
  exact ⟨ra, rc, rfl, boxed_ens hE (fun g hg => ⟨by omega, by omega⟩), boxed_below (hb.trans (hB.mono hs)) hM⟩
set_option maxRecDepth 100000 in
set_option maxHeartbeats 400000 in
theorem Copy_any (P : Nat → Prop) (b bt : Int) (a : Option Addr) (c : Nat) (es : List En) (w : World) (hE : EnsV w P a c es) (hs : Small es) : Calls Try.prog 15 #[.agg #[.int .i64 b, .int .i64 bt, .slice a es.length c]] w (LogP b bt es w) := by
  have HM : Hid (∀ o o2, Calls Try.prog 38 #[.int .i64 b, .int .i64 bt, .slice (some ⟨w.heap.size + 1 + 1, 0, none⟩) 1 1] (((w.alloc o).alloc o2).alloc (.cells #[.slice a es.length c] 22)) (LogP b bt es ((w.alloc o).alloc o2))) := fun o o2 => made1 b bt ((hE.all.alloc o).alloc o2) rfl hs (two_size _ _ _).symm
  have HG : Hid (∀ wx w' ra rc u0 u1 u2, EnsV w' (fun g => wx.heap.size ≤ g) ra rc es → Below wx.heap.size wx w' → Below w.heap.size w wx → Cell3 wx (w.heap.size + 1) u0 u1 u2 → LogP b bt es w (.returned (.agg #[.int .i64 b, .int .i64 bt, .slice ra es.length rc])) (((w'.setCell ⟨w.heap.size + 1, 0, none⟩ (.int .i64 b)).setCell ⟨w.heap.size + 1, 1, none⟩ (.int .i64 bt)).setCell ⟨w.heap.size + 1, 2, none⟩ (.slice ra es.length rc))) := fun wx w' ra rc u0 u1 u2 q1 q2 q3 q4 => LogP.box q1 q2 q3 q4 (Nat.le_succ _)
  clear hE hs
  generalize hn : es.length = n at *
  go_enter Try.func15, Try.ntmps15
  go_wp2_with (go_at_call 38; refine (HM.out _ _).mono ?_; rintro e w1 ⟨ra, rc, rfl, HE, HB⟩; rw [hn]; have HE1 : Hid (EnsV w1 (fun g => ((w.alloc (.cells #[.int .i64 b, .int .i64 bt, .slice a n c] 24)).alloc (.cells #[.int .i64 0, .int .i64 0, .slice none 0 0] 24)).heap.size ≤ g) ra rc es ∧ Below ((w.alloc (.cells #[.int .i64 b, .int .i64 bt, .slice a n c] 24)).alloc (.cells #[.int .i64 0, .int .i64 0, .slice none 0 0] 24)).heap.size ((w.alloc (.cells #[.int .i64 b, .int .i64 bt, .slice a n c] 24)).alloc (.cells #[.int .i64 0, .int .i64 0, .slice none 0 0] 24)) w1) := ⟨HE, HB⟩; have HC3 : Hid (Cell3 w1 (w.heap.size + 1) (.int .i64 0) (.int .i64 0) (.slice none 0 0)) := (Cell3.second w _ _ _ _ 24).below HB; obtain ⟨z0, z1, z2, z3⟩ := HC3.out; clear HE HB)
  obtain ⟨e0, e1, e2, _⟩ := boxed (w0 := w) (v0 := .int .i64 b) (v1 := .int .i64 bt) (v2 := .slice ra n rc) HC3.out
  exact bodyPost_ret (v := .agg #[.int .i64 b, .int .i64 bt, .slice ra n rc]) (by simp [results, Try.results15, go_sem, e0, e1, e2]) rfl (HG.out _ _ _ _ _ _ _ HE1.out.1 HE1.out.2 (below2 _ _ _) (Cell3.second w _ _ _ _ 24))
end Go.Proofs.Ytmpmbgjdbahmbaa

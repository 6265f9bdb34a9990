/-
  The document's From and cut: contracts.
-/
import Derived.Test.YtfmfphfckaiejaaJaj
import Derived.Test.YtfmfphfckaiejaaJai
namespace Go.Proofs.Ytfmfphfckaiejaa
section
open Go.RowKit
set_option linter.unusedVariables false


/-- Where what the row's entries lead to lies. -/
def Sq (w : World) (P : Nat → Prop) (g : Nat) : Prop := (P g ∧ g < w.heap.size) ∨ w.heap.size + 1 ≤ g
/-- A row that grows, beside a box. -/
structure Gq (w0 w : World) (o : Obj) (P : Nat → Prop) (v : Value) (ts : List En) : Prop where
  b : Below (w0.heap.size + 1) (w0.alloc o) w
  g : Gz w (w0.heap.size + 1) (Sq w0 P) v ts
section
variable {w0 w w' : World} {o : Obj} {P : Nat → Prop} {v v' : Value} {ts l : List En}
theorem Gq.nil (w0 : World) (o : Obj) (P : Nat → Prop) : Gq w0 (w0.alloc o) o P (.slice none 0 0) [] := ⟨Below.refl _ _, Gz.nil _ _ _⟩
theorem Gq.size (h : Gq w0 w o P v ts) : w0.heap.size + 1 ≤ w.heap.size := by have := h.b.size; rw [size_alloc] at this; exact this
theorem Gq.g' (h : Gq w0 w o P v ts) {o2 : Obj} : Gz (w.alloc o2) (w0.heap.size + 1) (Sq w0 P) v ts := h.g.below ((Below.refl _ _).alloc (Nat.le_refl _) _)
theorem Gq.hi' (h : Gq w0 w o P v ts) {o2 : Obj} : w0.heap.size + 1 ≤ (w.alloc o2).heap.size := Nat.le_trans h.size (le_alloc _ _)
theorem Gq.add (h : Gq w0 w o P v ts) {o2 : Obj} (h2 : Gz w' (w0.heap.size + 1) (Sq w0 P) v' (ts ++ l)) (hg : (w.alloc o2).grownBy w' v.ownBlock) : Gq w0 w' o P v' (ts ++ l) :=
  ⟨(h.b.alloc h.size o2).grown hg h.hi' fun k hk => (h.g.own k hk).1, h2⟩
theorem Gq.one (h : Gq w0 w o P v ts) {u0 u1 : Value} {e : En} (hr : ReadsE w P u0 u1 e) (hp : ∀ g, P g → g < w0.heap.size) : EnsV (w.alloc (.cells #[u0, u1] 53)) (fun g => P g ∨ g = w.heap.size) (some ⟨w.heap.size, 0, none⟩) 1 [e] ∧ ∀ g, (P g ∨ g = w.heap.size) → g < (w.alloc (.cells #[u0, u1] 53)).heap.size → Sq w0 P g ∧ v.ownBlock ≠ some g := by
  have hs := h.size
  refine ⟨EnsV.one rfl (.inr rfl) (hr.kept fun g hg _ => ⟨rfl, .inl hg⟩), fun g hg _ => ?_⟩
  rcases hg with hg | rfl
  · have := hp g hg
    exact ⟨.inl ⟨hg, this⟩, fun e => by have := (h.g.own g e).1; omega⟩
  · exact ⟨.inr hs, fun e => by have := (h.g.own _ e).2; omega⟩
theorem Gq.out {a : Option Addr} {n c : Nat} (h : Gq w0 w o P (.slice a n c) ts) : EnsV w (fun g => P g ∨ w0.heap.size + 1 ≤ g) a c ts := h.g.reads.2.sub fun g hg _ => by
  rcases hg with (⟨q, _⟩ | q) | q
  · exact .inl q
  · exact .inr q
  · exact .inr q
end
end
section
open Go.RowKit
set_option linter.unusedVariables false


theorem light1 {e : En} (h : e.2.length ≤ 100000) : Small [e] := ⟨by simp, fun j hj => by
  obtain rfl : j = 0 := by simp at hj; omega
  exact h⟩
theorem three_size (w : World) (o o2 o3 : Obj) : (((w.alloc o).alloc o2).alloc o3).heap.size = w.heap.size + 1 + 1 + 1 := by rw [size_alloc, size_alloc, size_alloc]
set_option maxRecDepth 100000 in
set_option maxHeartbeats 400000 in
theorem Behind_any (P : Nat → Prop) (b bt : Int) (a : Option Addr) (c : Nat) (es : List En) (e : En) (ka : Option Addr) (kc : Nat) (w : World) (hE : EnsV w P a c es) (hs : Small es) (hi : InR e.1) (hr : ReadsV w (.slice ka e.2.length kc) e.2) (hl : e.2.length ≤ 100000) : Calls Try.prog 68 #[.agg #[.int .i64 b, .int .i64 bt, .slice a es.length c], .agg #[.int .i64 e.1, .slice ka e.2.length kc]] w (LogP b bt (es ++ [e]) w) := by
  have HM : Hid (∀ o o2 o3, Calls Try.prog 55 #[.int .i64 b, .int .i64 bt, .slice (some ⟨w.heap.size + 1 + 1 + 1 + 1, 0, none⟩) 2 2] (((((w.alloc o).alloc o2).alloc o3).alloc (.cells #[.int .i64 e.1, .slice ka e.2.length kc] 53)).alloc (.cells #[.slice a es.length c, .slice (some ⟨w.heap.size + 1 + 1 + 1, 0, none⟩) 1 1] 22)) (LogP b bt (es ++ [e]) ((((w.alloc o).alloc o2).alloc o3).alloc (.cells #[.int .i64 e.1, .slice ka e.2.length kc] 53)))) := fun o o2 o3 => by
    have hB : Below w.heap.size w (((w.alloc o).alloc o2).alloc o3) := (below2 w o o2).alloc (by rw [two_size]; omega) o3
    have h1 := EnsV.one (w := ((w.alloc o).alloc o2).alloc o3) (P := fun _ => True) (u0 := .int .i64 e.1) (u1 := .slice ka e.2.length kc) (e := e) (three_size w o o2 o3).symm trivial ⟨ka, kc, rfl, rfl, hr.below hB, fun _ _ _ => trivial, hi⟩
    exact made2 b bt ((hE.all.below hB).alloc _) rfl hs h1 rfl (light1 hl) (by rw [size_alloc, three_size])
  have HG : Hid (∀ wx w' ra rc u0 u1 u2, EnsV w' (fun g => wx.heap.size ≤ g) ra rc (es ++ [e]) → Below wx.heap.size wx w' → Below w.heap.size w wx → Cell3 wx (w.heap.size + 1 + 1) u0 u1 u2 → LogP b bt (es ++ [e]) w (.returned (.agg #[.int .i64 b, .int .i64 bt, .slice ra (es ++ [e]).length rc])) (((w'.setCell ⟨w.heap.size + 1 + 1, 0, none⟩ (.int .i64 b)).setCell ⟨w.heap.size + 1 + 1, 1, none⟩ (.int .i64 bt)).setCell ⟨w.heap.size + 1 + 1, 2, none⟩ (.slice ra (es ++ [e]).length rc))) := fun wx w' ra rc u0 u1 u2 q1 q2 q3 q4 => LogP.box q1 q2 q3 q4 (by omega)
  have HB4 : Hid (∀ o o2 o3 o4, Below w.heap.size w ((((w.alloc o).alloc o2).alloc o3).alloc o4)) := fun o o2 o3 o4 => (((below2 w o o2).alloc (by rw [two_size]; omega) o3)).alloc (by rw [three_size]; omega) o4
  have HC4 : Hid (∀ o o2 v0 v1 v2 o4, Cell3 ((((w.alloc o).alloc o2).alloc (.cells #[v0, v1, v2] 24)).alloc o4) (w.heap.size + 1 + 1) v0 v1 v2) := fun o o2 v0 v1 v2 o4 => by
    have := Cell3.new ((w.alloc o).alloc o2) v0 v1 v2 24
    rw [two_size] at this
    exact this.below ((Below.refl _ _).alloc (Nat.le_refl _) o4)
  clear hE hs hr hi hl
  generalize hjl : es ++ [e] = jl at *
  clear hjl
  generalize e.2.length = el at *
  generalize e.1 = et at *
  generalize es.length = n at *
  go_enter Try.func68, Try.ntmps68
  go_wp2_with (go_at_call 55; refine (HM.out _ _ _).mono ?_; rintro e w1 ⟨ra, rc, rfl, HE, HB⟩; have HE1 : Hid (EnsV w1 (fun g => ((((w.alloc (.cells #[.int .i64 b, .int .i64 bt, .slice a n c] 24)).alloc (.cells #[.int .i64 et, .slice ka el kc] 53)).alloc (.cells #[.int .i64 0, .int .i64 0, .slice none 0 0] 24)).alloc (.cells #[.int .i64 et, .slice ka el kc] 53)).heap.size ≤ g) ra rc jl ∧ Below ((((w.alloc (.cells #[.int .i64 b, .int .i64 bt, .slice a n c] 24)).alloc (.cells #[.int .i64 et, .slice ka el kc] 53)).alloc (.cells #[.int .i64 0, .int .i64 0, .slice none 0 0] 24)).alloc (.cells #[.int .i64 et, .slice ka el kc] 53)).heap.size ((((w.alloc (.cells #[.int .i64 b, .int .i64 bt, .slice a n c] 24)).alloc (.cells #[.int .i64 et, .slice ka el kc] 53)).alloc (.cells #[.int .i64 0, .int .i64 0, .slice none 0 0] 24)).alloc (.cells #[.int .i64 et, .slice ka el kc] 53)) w1) := ⟨HE, HB⟩; have HC3 : Hid (Cell3 w1 (w.heap.size + 1 + 1) (.int .i64 0) (.int .i64 0) (.slice none 0 0)) := (HC4.out _ _ _ _ _ _).below HB; obtain ⟨z0, z1, z2, z3⟩ := HC3.out; clear HE HB)
  obtain ⟨e0, e1, e2, _⟩ := boxed (w0 := w) (v0 := .int .i64 b) (v1 := .int .i64 bt) (v2 := .slice ra jl.length rc) HC3.out
  exact bodyPost_ret (v := .agg #[.int .i64 b, .int .i64 bt, .slice ra jl.length rc]) (by simp [results, Try.results68, go_sem, e0, e1, e2]) rfl (HG.out _ _ _ _ _ _ _ HE1.out.1 HE1.out.2 (HB4.out _ _ _ _) (HC4.out _ _ _ _ _ _))
end
end Go.Proofs.Ytfmfphfckaiejaa

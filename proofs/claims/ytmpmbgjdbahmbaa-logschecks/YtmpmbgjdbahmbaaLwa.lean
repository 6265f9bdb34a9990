/-
  What the laws' walks share.
-/
import Derived.Test.YtmpmbgjdbahmbaaWrk
import Derived.Test.YtmpmbgjdbahmbaaMay
namespace Go.Proofs.Ytmpmbgjdbahmbaa
open Go.RowKit
set_option linter.unusedVariables false

theorem light_mem {es : List En} (h : Light es) : ∀ e ∈ es, e.2.length ≤ 6020 := fun e he => by
  obtain ⟨j, hj, rfl⟩ := List.getElem_of_mem he
  have := h.2 j hj
  rwa [List.getD_eq_getElem?_getD, List.getElem?_eq_getElem hj] at this
theorem small_mem {es : List En} (h1 : es.length ≤ 1000) (h : ∀ e ∈ es, e.2.length ≤ 6020) : Small es := ⟨h1, fun j hj => by
  have := h es[j] (List.getElem_mem hj)
  rw [List.getD_eq_getElem?_getD, List.getElem?_eq_getElem hj]
  exact Nat.le_trans this (by decide)⟩
theorem Light.small {es : List En} (h : Light es) : Small es := small_mem (by have := h.1; omega) (light_mem h)
theorem small_put {b bt : Int} {es r : List En} {p t : Int} (h : Light es) (h2 : Light r) : Small (putM b bt es p t r).1 := small_mem (by have := put_len (b := b) (bt := bt) (es := es) (p := p) (t := t) (r := r); have := h.1; have := h2.1; omega) fun e he => by
  rcases put_mem he with q | q
  · exact light_mem h e q
  · exact light_mem h2 e q
theorem chk_base {b bt : Int} {es : List En} (h : chkM b bt es = 0) : 0 ≤ b ∧ b ≤ 1099511627776 := ⟨(chk_zero.1 h).1.1, (chk_zero.1 h).1.2.1⟩
/-- What is known where both questions were answered yes. -/
structure Yes (b bt : Int) (es : List En) (p t : Int) (r : List En) : Prop where
  l : Light es
  c : chkM b bt es = 0
  r : Light r
  p1 : 0 ≤ p
  p2 : p ≤ 1000000
  t1 : 0 ≤ t
end Go.Proofs.Ytmpmbgjdbahmbaa

/-
  The rows that a caller keeps beside a disk, read at one place.
-/
import Derived.Test.YtcmnjiichkcmgaaKeeps
namespace Go.Proofs.Ytcmnjiichkcmgaa
open Go.RowKit Go.Maps Go.Sort
set_option linter.unusedVariables false

theorem Rows3.at_u {w1 wr : World} {F : Tab} {ks : List Key} {aw af na : Option Addr} {n cw cf ma u : Nat} {vals : List Value} (h : Rows3 w1 wr F ks (.slice aw n cw) (.slice af n cf) (.slice na n ma) vals) (hn : ks.length = n) (hu : u < n) :
    ∃ g1 g2 g3, aw = some ⟨g1, 0, none⟩ ∧ af = some ⟨g2, 0, none⟩ ∧ na = some ⟨g3, 0, none⟩ ∧ ∃ va vc, wr.cell? ⟨g1, u, none⟩ = some (.slice va (bytesOf F (ks.getD u [])).length vc) ∧ wr.cell? ⟨g2, u, none⟩ = some (.int .i64 (syncOf F (ks.getD u []))) ∧
      wr.cell? ⟨g3, u, none⟩ = some (.string (nameS (ks.getD u []))) ∧ ReadsV wr (.slice va (bytesOf F (ks.getD u [])).length vc) (bytesOf F (ks.getD u [])) ∧ (bytesOf F (ks.getD u [])).length = (bytesOf F (ks.getD u [])).length := by
  obtain ⟨a1, c1, e1, p1⟩ := h.ow
  obtain ⟨a2, c2, e2, p2⟩ := h.fi
  simp only [Value.slice.injEq] at e1 e2
  obtain ⟨rfl, -, -⟩ := e1
  obtain ⟨rfl, -, -⟩ := e2
  obtain ⟨g1, h1, k1⟩ := p1 (by omega)
  obtain ⟨g2, h2, k2⟩ := p2 (by omega)
  obtain ⟨_, g3, h3, k3⟩ := strs_at h.nm hu
  have hr := h.rd u (by omega)
  obtain ⟨va, vc, hv, _⟩ := id hr
  have k1 := k1 u (by omega)
  rw [hv] at k1 hr
  exact ⟨g1, g2, g3, h1, h2, h3, va, vc, k1, k2 u (by omega), k3, hr, rfl⟩

end Go.Proofs.Ytcmnjiichkcmgaa

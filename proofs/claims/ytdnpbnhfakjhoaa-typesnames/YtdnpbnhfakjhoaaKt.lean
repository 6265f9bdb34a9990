/-
  A tree that was read has kinds throughout.
-/
import Derived.Test.YtdnpbnhfakjhoaaTreeM
import Derived.Test.YtdnpbnhfakjhoaaPrint
import Derived.Test.YtdnpbnhfakjhoaaWeigh
import Derived.Test.YtdnpbnhfakjhoaaRSame
import Derived.Test.YtdnpbnhfakjhoaaNode
namespace Go.Proofs.Ytdnpbnhfakjhoaa
set_option linter.unusedVariables false


def Kd : Nat → Tr → Prop
  | 0, _ => False
  | d + 1, t => t.kind ≠ 0 ∧ ∀ x ∈ t.kids, Kd d x
theorem Kd.mono : ∀ {d e : Nat} {t : Tr}, d ≤ e → Kd d t → Kd e t
  | 0, _, _, _, h => h.elim
  | d + 1, 0, _, h, _ => by omega
  | d + 1, e + 1, t, h, ⟨h1, h2⟩ => ⟨h1, fun x hx => Kd.mono (by omega) (h2 x hx)⟩
def KT (t : Tr) : Prop := ∃ d, Kd d t
theorem KT.leaf {k n : Int} {m : Bs} (h : k ≠ 0) : KT ⟨k, n, m, []⟩ := ⟨1, h, fun x hx => by simp at hx⟩
theorem KT.one {k : Int} {x : Tr} (h : k ≠ 0) (hx : KT x) : KT ⟨k, 0, [], [x]⟩ := by
  obtain ⟨d, hd⟩ := hx
  exact ⟨d + 1, h, fun y hy => by simp at hy; rw [hy]; exact hd⟩
theorem KT.kid {t x : Tr} (h : KT t) (hx : x ∈ t.kids) : KT x := by
  obtain ⟨d, hd⟩ := h
  cases d with
  | zero => exact hd.elim
  | succ d => exact ⟨d, hd.2 x hx⟩
theorem KT.ne {t : Tr} (h : KT t) : t ≠ zeroT := by
  obtain ⟨d, hd⟩ := h
  cases d with
  | zero => exact hd.elim
  | succ d => rintro rfl; exact hd.1 rfl
theorem KT.named (t : Bs) : KT (named t) := by
  unfold Go.Proofs.Ytdnpbnhfakjhoaa.named
  split
  · exact .leaf (by decide)
  · split
    · exact .leaf (by decide)
    · exact .leaf (by decide)
end Go.Proofs.Ytdnpbnhfakjhoaa

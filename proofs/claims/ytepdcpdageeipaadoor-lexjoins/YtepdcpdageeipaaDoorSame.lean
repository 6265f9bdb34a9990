/-
  The document's Same, at two rows of the same words.
-/
import Derived.Test.YtepdcpdageeipaaDoorLists
import Derived.BigQuiet
namespace Go.Proofs.YtepdcpdageeipaaDoor
open Go.RowKit Go.Maps
set_option linter.unusedVariables false

set_option maxRecDepth 100000 in
set_option maxHeartbeats 400000 in
theorem same_walk (a b : Option Addr) (n ca cb : Nat) (ws : List W) (hn : n ≤ 4096) (hca : n ≤ ca) (hcb : n ≤ cb) (HL : Hid (ws.length = n)) (w : World) (HA : Hid (RowV w a ws)) (HB : Hid (RowV w b ws)) :
    Calls Tryd.prog 11 #[.slice a n ca, .slice b n cb] w fun e w' => e = .returned (.bool true) ∧ Below w.heap.size w w' := by
  go_enter Tryd.func11, Tryd.ntmps11
  go_wp2
  go_loopw [5] (fun i wr => ∃ k : Nat, k ≤ n ∧ i = .int .i64 k ∧ Hid (Below w.heap.size w wr)) (fun i _ => n - (intOf i).toNat)
  case atStart => exact ⟨0, Nat.zero_le _, rfl, Below.refl _ _⟩
  case round =>
    obtain ⟨j, hj, rfl, HW⟩ := hrel
    by_cases hlt : j < n
    · obtain ⟨b1, rfl, wa⟩ := HA.out.below HW.out j (by rw [HL.out]; exact hlt)
      obtain ⟨b2, rfl, wb⟩ := HB.out.below HW.out j (by rw [HL.out]; exact hlt)
      obtain ⟨c0, c1, c2, c3⟩ := wa
      obtain ⟨d0, d1, d2, d3⟩ := wb
      generalize (ws.getD j noW).kind = K at *
      generalize ba (ws.getD j noW).text = T at *
      generalize (ws.getD j noW).n = N at *
      generalize (ws.getD j noW).pos = P at *
      have i1 : (j : Int) < (n : Int) := by omega
      go_wp2
      go_quiet (fail)
      go_wp2
      go_roundw
      case rel => exact ⟨j + 1, by omega, by go_num, below_drewN HW.out _⟩
      case measure => simp [intOf]; omega
    · have hjn : j = n := by omega
      subst hjn
      go_wp2
      go_ret
      exact ⟨rfl, HW.out⟩

end Go.Proofs.YtepdcpdageeipaaDoor

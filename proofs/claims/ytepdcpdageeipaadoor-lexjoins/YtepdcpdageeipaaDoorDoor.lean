/-
  What the listed variables give: the library's own error lies where the road asks for it; one start that fits.
-/
import Derived.Test.YtepdcpdageeipaaDoorWorks
import Derived.Test.YtepdcpdageeipaaDoorTie
import Derived.Test.YtepdcpdageeipaaDoorCards
import Derived.LaidMore
import Derived.Stop.LaidErr
import Derived.Stop.Joined
import Derived.ProofKit
namespace Go.Proofs.YtepdcpdageeipaaDoor
open Go.ChangeShapes Go.WideShapes Go.ChangeAt Go.RowKit

theorem own : ownKnob Tryd.prog.godebug = none := by kernel_rfl
def laidL : List (String × DataW Unit) := Rows.lexSplitsRow.laid
theorem gER : Tryd.prog.globalNamed "strconv.ErrRange" = some 1 := by kernel_rfl
theorem gERType : (Tryd.prog.globals[1]?).map (·.type) = some 44 := by kernel_rfl
theorem cells71 : Tryd.prog.cellsOf 71 = 1 := by kernel_rfl
theorem cells9 : Tryd.prog.cellsOf 9 = 1 := by kernel_rfl
theorem star : "*" ++ "errors.errorString" = "*errors.errorString" := by decide
theorem row69 (u : TypeId) (h : Tryd.prog.typeName? 3 u = some "*errors.errorString") : u = 69 :=
  typeName_ptr_named (nm := "errors.errorString") (by rw [star]; kernel_rfl) (by kernel_rfl) (by decide) u (by rw [star]; exact h)

theorem door_met (os : Os) (args : Array Value) : laidMetH Tryd.prog laidL ((World.doorLaid Tryd.prog 400 os).forCall (fun _ _ => 0) ⟨#[], args, []⟩).memory :=
  laidMetH_of_parts3 (fuel := 8) (laidMet_of_run' 8 (by kernel_rfl) (by kernel_rfl)) (by kernel_rfl) (by kernel_rfl)

theorem of_laid {W : World} (h : laidMetH Tryd.prog laidL W) : Held W := by
  rw [MakeChecks.laidMetH_plain _ _ _ (by kernel_rfl)] at h
  have h1 := laidMet.tail (x := _) (r := _) h
  have h2 := laidMet.tail (x := _) (r := _) h1
  have h3 := laidMet.tail (x := _) (r := _) h2
  obtain ⟨a0, s0, hv0, -, -, -⟩ := laid_sentinel (nm := _) (text := _) (r := _) h3 gER gERType Tryd.underlying44 row69 Tryd.underlying69 Tryd.underlying71 rfl rfl Tryd.underlying9 cells71 cells9
  exact ⟨_, _, by have h0 := World.var?_cell gER hv0 0; simpa using h0⟩

end Go.Proofs.YtepdcpdageeipaaDoor

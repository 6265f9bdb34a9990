/-
  What the listed variables give: the library's own error and its table lie where the road asks for them; one start that fits.
-/
import Derived.Test.YtlfeejjlcclbdaaGreatDoorWorks
import Derived.Test.YtlfeejjlcclbdaaGreatDoorTie
import Derived.Test.YtlfeejjlcclbdaaGreatDoorCards
import Derived.LaidMore
import Derived.Stop.LaidErr
import Derived.Stop.Joined
import Derived.ProofKit
import Derived.Lib.LaidTab
namespace Go.Proofs.YtlfeejjlcclbdaaGreatDoor
open Go.ChangeShapes Go.WideShapes Go.ChangeAt Go.RowKit


theorem own : ownKnob Tryz.prog.godebug = none := by kernel_rfl
theorem laidOut : laidOutB Tryz.prog = true := by kernel_rfl
def laidL : List (String × DataW Unit) := Rows.exprPrintsRow.laid
theorem gER : Tryz.prog.globalNamed "strconv.ErrRange" = some 2 := by kernel_rfl
theorem gERType : (Tryz.prog.globals[2]?).map (·.type) = some 77 := by kernel_rfl
theorem cells117 : Tryz.prog.cellsOf 122 = 1 := by kernel_rfl
theorem cells9 : Tryz.prog.cellsOf 9 = 1 := by kernel_rfl
theorem star : "*" ++ "errors.errorString" = "*errors.errorString" := by decide
theorem row115 (u : TypeId) (h : Tryz.prog.typeName? 3 u = some "*errors.errorString") : u = 120 :=
  typeName_ptr_named (nm := "errors.errorString") (by rw [star]; kernel_rfl) (by kernel_rfl) (by decide) u (by rw [star]; exact h)
theorem door_met (os : Os) (args : Array Value) : laidMetH Tryz.prog laidL ((World.doorLaid Tryz.prog 400 os).forCall (fun _ _ => 0) ⟨#[], args, []⟩).memory :=
  laidMetH_of_parts3 (fuel := 8) (laidMet_of_run' 8 (by kernel_rfl) (by kernel_rfl)) (by kernel_rfl) (by kernel_rfl)
theorem of_laid {W : World} (h : laidMetH Tryz.prog laidL W) : Ready W := by
  rw [MakeChecks.laidMetH_plain _ _ _ (by kernel_rfl)] at h
  have h1 := laidMet.tail (x := _) (r := _) h
  have h2 := laidMet.tail (x := _) (r := _) h1
  have h3 := laidMet.tail (x := _) (r := _) h2
  obtain ⟨a0, s0, hv0, -, -, -⟩ := laid_sentinel (nm := _) (text := _) (r := _) h3 gER gERType Tryz.underlying77 row115 Tryz.underlying120 Tryz.underlying122 rfl rfl Tryz.underlying9 cells117 cells9
  refine ⟨⟨_, _, by have h0 := World.var?_cell gER hv0 0; simpa using h0⟩, ?_⟩
  exact Lib.tabIs_of_head (g := 0) (t := 110) (e := 86) (n := 20) (by kernel_rfl) (by kernel_rfl) Tryz.underlying110 Tryz.underlying86 (by kernel_rfl) (by kernel_rfl) (rest := _) (show laidMet Tryz.prog (("internal/strconv.uint64pow10", Lib.tabData .u64 Lib.pow10Tab) :: _) W from h2)
end Go.Proofs.YtlfeejjlcclbdaaGreatDoor

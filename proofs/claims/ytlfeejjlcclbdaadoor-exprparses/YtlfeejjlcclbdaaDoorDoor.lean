/-
  What the listed variables give: the library's own error and its table lie where the road asks for them; one start that fits.
-/
import Derived.Test.YtlfeejjlcclbdaaDoorWorks
import Derived.Test.YtlfeejjlcclbdaaDoorTie
import Derived.Test.YtlfeejjlcclbdaaDoorCards
import Derived.LaidMore
import Derived.Stop.LaidErr
import Derived.Stop.Joined
import Derived.ProofKit
import Derived.Lib.LaidTab
namespace Go.Proofs.YtlfeejjlcclbdaaDoor
open Go.ChangeShapes Go.WideShapes Go.ChangeAt Go.RowKit


theorem own : ownKnob Tryd.prog.godebug = none := by kernel_rfl
def laidL : List (String × DataW Unit) := Rows.exprSameRow.laid
theorem gER : Tryd.prog.globalNamed "strconv.ErrRange" = some 1 := by kernel_rfl
theorem gERType : (Tryd.prog.globals[1]?).map (·.type) = some 72 := by kernel_rfl
theorem cells117 : Tryd.prog.cellsOf 117 = 1 := by kernel_rfl
theorem cells9 : Tryd.prog.cellsOf 9 = 1 := by kernel_rfl
theorem star : "*" ++ "errors.errorString" = "*errors.errorString" := by decide
theorem row115 (u : TypeId) (h : Tryd.prog.typeName? 3 u = some "*errors.errorString") : u = 115 :=
  typeName_ptr_named (nm := "errors.errorString") (by rw [star]; kernel_rfl) (by kernel_rfl) (by decide) u (by rw [star]; exact h)
theorem door_met (os : Os) (args : Array Value) : laidMetH Tryd.prog laidL ((World.doorLaid Tryd.prog 400 os).forCall (fun _ _ => 0) ⟨#[], args, []⟩).memory :=
  laidMetH_of_parts3 (fuel := 8) (laidMet_of_run' 8 (by kernel_rfl) (by kernel_rfl)) (by kernel_rfl) (by kernel_rfl)
theorem of_laid {W : World} (h : laidMetH Tryd.prog laidL W) : Ready W := by
  rw [MakeChecks.laidMetH_plain _ _ _ (by kernel_rfl)] at h
  have h1 := laidMet.tail (x := _) (r := _) h
  have h2 := laidMet.tail (x := _) (r := _) h1
  have h3 := laidMet.tail (x := _) (r := _) h2
  obtain ⟨a0, s0, hv0, -, -, -⟩ := laid_sentinel (nm := _) (text := _) (r := _) h3 gER gERType Tryd.underlying72 row115 Tryd.underlying115 Tryd.underlying117 rfl rfl Tryd.underlying9 cells117 cells9
  refine ⟨⟨_, _, by have h0 := World.var?_cell gER hv0 0; simpa using h0⟩, ?_⟩
  exact Lib.tabIs_of_head (g := 3) (t := 110) (e := 89) (n := 20) (by kernel_rfl) (by kernel_rfl) Tryd.underlying110 Tryd.underlying89 (by kernel_rfl) (by kernel_rfl) (rest := _) (show laidMet Tryd.prog (("internal/strconv.uint64pow10", Lib.tabData .u64 Lib.pow10Tab) :: _) W from h2)
end Go.Proofs.YtlfeejjlcclbdaaDoor

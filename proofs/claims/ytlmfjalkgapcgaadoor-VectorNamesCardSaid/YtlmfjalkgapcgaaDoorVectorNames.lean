/- VectorNames returns true: the examples of the chapter have the results that it states. It has no input; the table of powers of ten holds what the program's text lays, to which the card ties it. -/
import Derived.Test.YtlmfjalkgapcgaaDoorVcNames
import Derived.Test.YtlmfjalkgapcgaaDoorVcRow
import Derived.Test.YtlmfjalkgapcgaaDoorRows
import Derived.Test.YtlmfjalkgapcgaaDoorCards
import Derived.Test.YtlmfjalkgapcgaaDoorTie
import Derived.ShutString
import Derived.ChangeOld
import Derived.Below
import Derived.WalkKit
import Derived.ProofKit
import Derived.OpenShut
import Derived.LaidMore
import Derived.Lay
import Derived.Lib.LaidTab
import Derived.SevenTiedAt
import Derived.Stop.Joined
import Derived.DataShut
namespace Go.Proofs.YtlmfjalkgapcgaaDoor.vectorNames
open Go.ChangeShapes Go.WideShapes Go.ChangeAt Go.RowKit
open Go.ChangeMaps (open_string shut_string)
set_option linter.unusedVariables false

theorem own : ownKnob Tryd.prog.godebug = none := by kernel_rfl
theorem laidOut : laidOutB Tryd.prog = true := by kernel_rfl
theorem wfi {n : Int} (h : (Lit.int .i64 n).wf = true) : -9223372036854775808 ≤ n ∧ n ≤ 9223372036854775807 := (Lit.wf_int_iff .i64 n).1 h

/-- What the condition gives the walk. -/
theorem tab_of {W : World} (h : laidMetH Tryd.prog Rows.vectorNamesRow.laid W) : Tab W := by
  rw [MakeChecks.laidMetH_plain _ _ _ (by kernel_rfl)] at h
  exact tab_of_laid h

end Go.Proofs.YtlmfjalkgapcgaaDoor.vectorNames

/- Split, Ending, Within, Check of a path. -/
import Derived.Test.YtkffijgmcekboaaDoorPtFacts
namespace Go.Proofs.YtkffijgmcekboaaDoor
open Go.RowKit
set_option linter.unusedVariables false

theorem rest_path (s : List UInt8) (hp : isPath s = true) : (∀ W, Calls Tryd.prog 13 #[.string (S s)] W fun e w' => e = .returned (.tuple #[.string (S (folder s)), .string (S (base s))]) ∧ Nx W w') ∧ (∀ W, Calls Tryd.prog 15 #[.string (S s)] W fun e w' => e = .returned (.tuple #[.string (S (stem (base s))), .string (S (ending (base s)))]) ∧ Nx W w') ∧ (∀ W, Calls Tryd.prog 12 #[.string ⟨#[]⟩, .string (S s)] W fun e w' => e = .returned (.bool true) ∧ Nx W w') ∧ (∀ W, Calls Tryd.prog 11 #[.string (S s)] W fun e w' => e = .returned (.int .i64 0) ∧ Nx W w') := by
  refine ⟨fun W => ?_, fun W => ?_, fun W => ?_, fun W => ?_⟩
  · have := split_any W s
    rw [pathOr_path hp] at this
    exact this
  · have := end_any W s
    rw [pathOr_path hp] at this
    exact this
  · have := within_any W [] s (by simp)
    rw [within_nil hp] at this
    exact this
  · have := check_any W s
    rw [chk_zero.2 hp] at this
    exact this

end Go.Proofs.YtkffijgmcekboaaDoor

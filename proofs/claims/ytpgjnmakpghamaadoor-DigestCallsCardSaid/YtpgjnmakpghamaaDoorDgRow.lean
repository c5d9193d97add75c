/- What the shell of a law over the digest hands over. -/
import Derived.Test.YtpgjnmakpghamaaDoorDgMem
import Derived.Test.YtpgjnmakpghamaaDoorRow
import Derived.Lib.LaidTab
namespace Go.Proofs.YtpgjnmakpghamaaDoor
open Go.RowKit
set_option linter.unusedVariables false

def IsRow (k : IntKind) (w : World) (a : Option Addr) (len cap : Nat) (zs : List Int) : Prop :=
  (a = none ∧ len = 0 ∧ cap = 0 ∧ zs = []) ∨
  ∃ x, a = some x ∧ len ≤ cap ∧ cap ≤ maxLen ∧ zs.length = cap ∧ (∀ i, i < zs.length → w.cell? (x.add i) = some (.int k (zs.getD i 0))) ∧ ∀ n ∈ zs, (Lit.int k n).wf = true

/-- The table of primes lies as the row lists it. -/
theorem primes_of_laid {W : World} {rest : List (String × DataW Unit)} (h : laidMet Tryd.prog (("packtrain/digest.primes", Rows.laid_packtrain_digest_primes) :: rest) W) : Primes W := by
  have ht : Lib.TabIs Tryd.prog W "packtrain/digest.primes" .u64 (primesL.map fun n : Nat => (n : Int)) :=
    Lib.tabIs_of_head (g := 0) (t := 57) (e := 55) (n := 64) (by kernel_rfl) (by kernel_rfl) Tryd.underlying57 Tryd.underlying55 (by kernel_rfl) (by kernel_rfl) h
  unfold Lib.TabIs World.var? at ht
  rw [show Tryd.prog.globalNamed "packtrain/digest.primes" = some 0 from by kernel_rfl, Option.bind_some] at ht
  unfold Primes
  split at ht
  · rename_i cs t fr hg
    injection ht with ht
    refine ⟨t, fr, ?_⟩
    rw [hg, ht]
    rfl
  · cases ht
end Go.Proofs.YtpgjnmakpghamaaDoor

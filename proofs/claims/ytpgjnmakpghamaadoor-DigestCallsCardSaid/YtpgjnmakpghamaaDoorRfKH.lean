/- The reference's roots are the program's. -/
import Derived.Test.YtpgjnmakpghamaaDoorRfRoot
import Derived.Test.YtpgjnmakpghamaaDoorDgMem
namespace Go.Proofs.YtpgjnmakpghamaaDoor
open Go.RowKit
set_option linter.unusedVariables false

theorem refH (i : Nat) (h : i < 8) : rootGo (leS (primesL.getD i 0)) 37 0 % 4294967296 = H0.getD i 0 := by
  have : ∀ j : Fin 8, rootGo (leS (primesL.getD j.val 0)) 37 0 % 4294967296 = H0.getD j.val 0 := by decide +kernel
  exact this ⟨i, h⟩
theorem refK (i : Nat) (h : i < 64) : rootGo (leC (primesL.getD i 0)) 37 0 % 4294967296 = K0.getD i 0 := by
  have : ∀ j : Fin 64, rootGo (leC (primesL.getD j.val 0)) 37 0 % 4294967296 = K0.getD j.val 0 := by decide +kernel
  exact this ⟨i, h⟩

/-- How many primes lie below p. -/
def cntP (p : Nat) : Nat := (primesL.filter (· < p)).length
/-- The next number is a prime. -/
theorem cnt_step (p : Nat) (h : p ≤ 311) (h2 : 2 ≤ p) : cntP p ≤ 63 ∧ cntP (p + 1) = cntP p + (if (primesL.take (cntP p)).all (fun q => p % q != 0) then 1 else 0) ∧ ((primesL.take (cntP p)).all (fun q => p % q != 0) = true → primesL.getD (cntP p) 0 = p) := by
  have : ∀ j : Fin 312, 2 ≤ j.val → cntP j.val ≤ 63 ∧ cntP (j.val + 1) = cntP j.val + (if (primesL.take (cntP j.val)).all (fun q => j.val % q != 0) then 1 else 0) ∧ ((primesL.take (cntP j.val)).all (fun q => j.val % q != 0) = true → primesL.getD (cntP j.val) 0 = j.val) := by decide +kernel
  exact this ⟨p, by omega⟩ h2
theorem cnt_end : cntP 312 = 64 := by decide +kernel
theorem primes_pos (i : Nat) (h : i < 64) : 0 < primesL.getD i 0 := by
  have : ∀ j : Fin 64, 0 < primesL.getD j.val 0 := by decide +kernel
  exact this ⟨i, h⟩
end Go.Proofs.YtpgjnmakpghamaaDoor

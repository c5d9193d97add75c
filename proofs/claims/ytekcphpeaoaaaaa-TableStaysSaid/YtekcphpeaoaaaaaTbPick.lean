/- Pick. -/
import Derived.Test.YtekcphpeaoaaaaaTbRefP
namespace Go.Proofs.Ytekcphpeaoaaaaa
open Go.RowKit
set_option linter.unusedVariables false

set_option maxRecDepth 100000
theorem neg_lt_tmod (n m : Int) (h : 0 < m) : -m < n.tmod m := by
  have := Int.tmod_lt_of_pos (-n) h
  rw [Int.neg_tmod] at this
  omega
/-- What Pick returns. -/
def pickOf (n m : Int) : Int := if n.tmod m < 0 then n.tmod m + m else n.tmod m
theorem pick_any (n m : Int) (w : World) (h1 : 1 ≤ m) (h2 : m ≤ 4611686018427387904) (h3 : -9223372036854775808 ≤ n) (h4 : n ≤ 9223372036854775807) :
    Calls Try.prog 34 #[.int .i64 n, .int .i64 m] w fun e w' => e = .returned (.int .i64 (pickOf n m)) ∧ w = w' := by
  have hm0 : ¬ m = 0 := by omega
  have t1 := Int.tmod_lt_of_pos n (show 0 < m by omega)
  have t2 := neg_lt_tmod n m (by omega)
  unfold pickOf
  by_cases hneg : n.tmod m < 0
  · rw [if_pos hneg]
    go_enter Try.func34, Try.ntmps34
    go_wp2
    go_ret
    exact ⟨rfl, rfl⟩
  · rw [if_neg hneg]
    go_enter Try.func34, Try.ntmps34
    go_wp2
    go_ret
    exact ⟨rfl, rfl⟩
theorem pickOf_lo (n m : Int) (h : 1 ≤ m) : 0 ≤ pickOf n m := by
  unfold pickOf
  have := neg_lt_tmod n m (by omega)
  split <;> omega
theorem pickOf_hi (n m : Int) (h : 1 ≤ m) : pickOf n m < m := by
  unfold pickOf
  have := Int.tmod_lt_of_pos n (show 0 < m by omega)
  split <;> omega
end Go.Proofs.Ytekcphpeaoaaaaa

/- Version vectors in memory. -/
import Derived.Test.YtlmfjalkgapcgaaDoorGnR
import Derived.Test.YtlmfjalkgapcgaaDoorVcPure
namespace Go.Proofs.YtlmfjalkgapcgaaDoor
open Go.RowKit
set_option linter.unusedVariables false

theorem one_of3 {x : Value} (h : x.oneCell' = true) {l : List Value} (hl : ∀ u ∈ l, u.oneCell' = true) : ∀ u ∈ x :: l, u.oneCell' = true := fun u hu => by
  rcases List.mem_cons.1 hu with rfl | hu
  · exact h
  · exact hl u hu
theorem one_nil : ∀ u ∈ ([] : List Value), u.oneCell' = true := fun u hu => absurd hu (by simp)
def ctE : En Ct := { t := 29, k := 2, sz := 16, z := .agg #[.int .i64 0, .int .u64 0], e := fun c => [.int .i64 c.d, .int .u64 c.n], len := fun _ => rfl, one := fun a => one_of3 rfl (one_of3 rfl one_nil), kpos := by decide, info := by kernel_rfl, zc := rfl, szb := by decide }
def p3E : En P3 := { t := 51, k := 3, sz := 24, z := .agg #[.int .i64 0, .int .u64 0, .int .u64 0], e := fun c => [.int .i64 c.d, .int .u64 c.m, .int .u64 c.t], len := fun _ => rfl, one := fun a => one_of3 rfl (one_of3 rfl (one_of3 rfl one_nil)), kpos := by decide, info := by kernel_rfl, zc := rfl, szb := by decide }
/-- Devices and values as Go has them. -/
def CtOk (c : Ct) : Prop := -9223372036854775808 ≤ c.d ∧ c.d ≤ 9223372036854775807 ∧ c.n ≤ 18446744073709551615
def CtsOk (l : List Ct) : Prop := ∀ c ∈ l, CtOk c
end Go.Proofs.YtlmfjalkgapcgaaDoor

/- A slice of numbers, as the shell of a law hands it over. -/
import Derived.Test.YtpgjnmakpghamaaDoorDgRow
import Derived.Test.YtpgjnmakpghamaaDoorDgSteps
namespace Go.Proofs.YtpgjnmakpghamaaDoor
open Go.RowKit
set_option linter.unusedVariables false

theorem row_nums {w : World} {a : Option Addr} {len cap : Nat} {zs : List Int} (h : IsRow .i64 w a len cap zs) : Nums w a len cap := by
  rcases h with ⟨rfl, rfl, rfl, rfl⟩ | ⟨x, rfl, hl, hm, hz, hcell, hwf⟩
  · exact ⟨Nat.le_refl _, Nat.zero_le _, fun h => absurd h (by omega)⟩
  · refine ⟨hl, hm, fun hn => ?_⟩
    obtain ⟨b, o, spot⟩ := x
    have h0 := hcell 0 (by omega)
    have hs : spot = none := by simpa [Addr.add] using World.cell?_spot h0
    subst hs
    refine ⟨b, o, rfl, by simpa [add_plain] using World.block_lt_of_cell? w _ h0, fun j hj => ?_⟩
    have hc := hcell j (by omega)
    rw [add_plain] at hc
    have hmem : zs.getD j 0 ∈ zs := by
      rw [List.getD, List.getElem?_eq_getElem (by omega)]
      exact List.getElem_mem _
    exact ⟨_, hc, (wfi64 (hwf _ hmem)).1, (wfi64 (hwf _ hmem)).2⟩
end Go.Proofs.YtpgjnmakpghamaaDoor

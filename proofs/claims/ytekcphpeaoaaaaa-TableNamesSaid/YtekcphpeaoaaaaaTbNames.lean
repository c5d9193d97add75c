/- Package table: the walk of TableNames. -/
import Derived.Test.YtekcphpeaoaaaaaTbLives
namespace Go.Proofs.Ytekcphpeaoaaaaa
open Go.RowKit Go.Shelf
set_option linter.unusedVariables false

attribute [local go_sem] Oper.semAt_some

theorem y1 : rank [97] = 3826002220 := by decide
theorem y2 : rank [] = 2166136261 := by decide
theorem y3 : look [] (ins [] [120] []) = some [120] := by decide
theorem y4 : look [] [] = none := by decide
theorem y5 : (ins [] [120] []).length = 1 := by decide
theorem y6 : era [97] [] = [] := by decide

set_option maxRecDepth 100000 in
set_option maxHeartbeats 1000000 in
theorem names_any (w : World) : Calls Try.prog 3 #[] w fun e w' => e = .returned (.bool true) ∧ Nx w w' := by
  obtain ⟨W1, hW1⟩ : ∃ W1, w.alloc (.cells #[.pointer none] 24) = W1 := ⟨_, rfl⟩
  have n1 : Nx w W1 := by rw [← hW1]; exact (Nx.refl w).alloc _
  have b1 : BlkIs W1 w.heap.size 24 #[.pointer none] := by rw [← hW1]; exact BlkIs.new _ _ _
  have c1 : W1.cell? ⟨w.heap.size, 0, none⟩ = some (.pointer none) := by rw [b1.cell]; rfl
  have G1 := Lib.hid (tget_any W1 _ _ [] (Tb.zero W1))
  rw [y4] at G1
  have hS : ((S [120]).toList == [120]) = true := by rw [S_toList]; decide
  have N1 := Lib.hid n1
  have B1 := Lib.hid b1
  clear n1 b1
  go_enter Try.func3, Try.ntmps3
  go_wp2_with fail
  refine G1.out.mono ?_
  rintro e w2 ⟨rfl, hn2⟩
  have n12 := N1.out.trans hn2
  have c2 : w2.cell? ⟨w.heap.size, 0, none⟩ = some (.pointer none) := by rw [(B1.out.nx hn2).cell]; rfl
  have P1 := Lib.hid (tput_any w2 _ _ [] [120] (Tb.zero w2) (by decide) (by decide) (by decide))
  have N2 := Lib.hid n12
  have B2 := Lib.hid (B1.out.nx hn2)
  unfold getV
  clear hn2 n12 c1 G1 hW1
  go_wp2_with fail
  refine P1.out.mono ?_
  rintro e w3 ⟨T1, rfl, ht1, hn3⟩
  obtain ⟨u1, rfl⟩ := ht1.agg
  obtain ⟨W4, hW4⟩ : ∃ W4, w3.alloc (.cells #[.pointer u1] 24) = W4 := ⟨_, rfl⟩
  have hv := ht1.var
  rw [hW4] at hv
  have n24 : Nx w2 W4 := hn3.trans (by rw [← hW4]; exact (Nx.refl w3).alloc _)
  have c4 : W4.cell? ⟨w3.heap.size, 0, none⟩ = some (.pointer u1) := by rw [hv.2.cell]; rfl
  have G2 := Lib.hid (tget_any W4 _ _ [] hv.1)
  rw [y3] at G2
  have T4 := Lib.hid hv.1
  have B4 := Lib.hid hv.2
  have B5 := Lib.hid (B2.out.nx n24)
  have N4 : Hid (Nx w W4) := N2.out.trans n24
  clear P1 ht1 hn3 hv n24 c2
  go_wp2_with fail
  refine G2.out.mono ?_
  rintro e w5 ⟨rfl, hn5⟩
  have LV := Lib.hid (lives_any w5)
  have N5 : Hid (Nx w w5) := N4.out.trans hn5
  have T5 := Lib.hid (T4.out.nx hn5)
  have B6 := Lib.hid (B4.out.nx hn5)
  have B7 := Lib.hid (B5.out.nx hn5)
  unfold getV
  clear G2 hn5 c4 T4 B4 B5 hW4
  go_wp2_with fail
  refine LV.out.mono ?_
  rintro e w6 ⟨rfl, hn6⟩
  have R1 := Lib.hid (rank_any w6 [97] (by decide))
  rw [y1] at R1
  have N6 : Hid (Nx w w6) := N5.out.trans hn6
  have T6 := Lib.hid (T5.out.nx hn6)
  have B8 := Lib.hid (B6.out.nx hn6)
  have B9 := Lib.hid (B7.out.nx hn6)
  clear LV hn6 T5 B6 B7
  go_wp2_with fail
  refine R1.out.mono ?_
  rintro e w7 ⟨rfl, hn7⟩
  have R2 := Lib.hid (rank_any w7 [] (by decide))
  rw [y2] at R2
  have N7 : Hid (Nx w w7) := N6.out.trans hn7
  have T7 := Lib.hid (T6.out.nx hn7)
  have B10 := Lib.hid (B8.out.nx hn7)
  have B11 := Lib.hid (B9.out.nx hn7)
  clear R1 hn7 T6 B8 B9
  go_wp2_with fail
  refine R2.out.mono ?_
  rintro e w8 ⟨rfl, hn8⟩
  have N8 : Hid (Nx w w8) := N7.out.trans hn8
  have T8 := Lib.hid (T7.out.nx hn8)
  have b12 := B10.out.nx hn8
  have b13 := B11.out.nx hn8
  have c8 : w8.cell? ⟨w.heap.size, 0, none⟩ = some (.pointer none) := by rw [b13.cell]; rfl
  have Z1 := Lib.hid (tsize_any w8 _ _ (Tb.zero w8))
  have B12 := Lib.hid b12
  have B13 := Lib.hid b13
  clear R2 hn8 T7 B10 B11 b12 b13
  go_wp2_with fail
  refine Z1.out.mono ?_
  rintro e w9 ⟨rfl, hn9⟩
  have N9 : Hid (Nx w w9) := N8.out.trans hn9
  have c9 : w9.cell? ⟨w3.heap.size, 0, none⟩ = some (.pointer u1) := by rw [(B12.out.nx hn9).cell]; rfl
  have Z2 := Lib.hid (tsize_any w9 _ _ (T8.out.nx hn9))
  rw [y5] at Z2
  have B14 := Lib.hid (B13.out.nx hn9)
  clear Z1 hn9 T8 B12 B13 c8
  go_wp2_with fail
  refine Z2.out.mono ?_
  rintro e w10 ⟨rfl, hn10⟩
  have N10 : Hid (Nx w w10) := N9.out.trans hn10
  have c10 : w10.cell? ⟨w.heap.size, 0, none⟩ = some (.pointer none) := by rw [(B14.out.nx hn10).cell]; rfl
  have D1 := Lib.hid (tdrop_any w10 _ _ [97] (Tb.zero w10) (by decide))
  rw [y6] at D1
  clear Z2 hn10 c9
  go_wp2_with fail
  refine D1.out.mono ?_
  rintro e w11 ⟨T9, rfl, ht, hn11⟩
  have N11 : Hid (Nx w w11) := N10.out.trans hn11
  have Z3 := Lib.hid (tsize_any w11 _ _ ht)
  clear D1 ht hn11 c10
  go_wp2_with fail
  refine Z3.out.mono ?_
  rintro e w12 ⟨rfl, hn12⟩
  have N12 : Hid (Nx w w12) := N11.out.trans hn12
  clear Z3 hn12
  go_wp2_with fail
  go_ret
  exact ⟨rfl, N12.out⟩
end Go.Proofs.Ytekcphpeaoaaaaa

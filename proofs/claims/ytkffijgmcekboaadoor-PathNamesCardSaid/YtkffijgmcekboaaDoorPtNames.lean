/- The walk of the law PathNames. -/
import Derived.Test.YtkffijgmcekboaaDoorPtLives
namespace Go.Proofs.YtkffijgmcekboaaDoor
open Go.RowKit
open Go.Lib (decDigits)
set_option linter.unusedVariables false

theorem not_copied : CopiedIs [98, 46, 99, 51] [] 0 0 false := by
  have hm : MarkIs (parts3 (base (pathOr [98, 46, 99, 51]))).2.1 0 0 false := by
    rw [show (parts3 (base (pathOr [98, 46, 99, 51]))).2.1 = [46, 99, 51] from by decide]
    refine .inr ⟨fun d n _ _ _ e => ?_, rfl, rfl, rfl⟩
    have h : (45 : UInt8) ∈ mark d n := by simp [mark]
    rw [← e] at h
    exact absurd h (by decide)
  have := copied_of hm
  rwa [if_neg (by decide)] at this

set_option maxRecDepth 100000 in
theorem names_walk (w : World) (hT : Tab w) :
    Calls Tryd.prog 3 #[] w fun e w' => e = .returned (.bool true) ∧ Nx w w' := by
  have X1 := fun W => copied_any W [98, 46, 99, 51] [] 0 0 false not_copied
  rw [S_nil] at X1
  have X2 := fun W => temp_any W [97, 47, 98]
  rw [show tempR [97, 47, 98] = ([46, 116, 109, 112, 47, 97, 47, 98], 0) from by decide] at X2
  have X3 := fun W => temped_any W [46, 116, 109, 112, 47, 97, 47, 98]
  rw [show tempedR [46, 116, 109, 112, 47, 97, 47, 98] = ([97, 47, 98], true) from by decide] at X3
  have X4 := fun W h => lives_any W h
  have X5 := fun W => check_any W [97, 47, 47, 98]
  rw [show chk [97, 47, 47, 98] = 2 from by decide] at X5
  have X6 := fun W => check_any W [46, 97]
  rw [show chk [46, 97] = 2 from by decide] at X6
  have X7 := fun W => check_any W [46, 46, 47, 97]
  rw [show chk [46, 46, 47, 97] = 2 from by decide] at X7
  have X8 := fun W => within_any W [97] [97, 47, 98] (by simp)
  rw [show within [97] [97, 47, 98] = true from by decide] at X8
  have X9 := fun W => within_any W [97] [97, 98] (by simp)
  rw [show within [97] [97, 98] = false from by decide] at X9
  have XA := fun W => within_any W [] [97] (by simp)
  rw [show within [] [97] = true from by decide, S_nil] at XA
  have X1 := Lib.hid X1
  have X2 := Lib.hid X2
  have X3 := Lib.hid X3
  have X4 := Lib.hid X4
  have X5 := Lib.hid X5
  have X6 := Lib.hid X6
  have X7 := Lib.hid X7
  have X8 := Lib.hid X8
  have X9 := Lib.hid X9
  have XA := Lib.hid XA
  have T := Lib.hid hT
  clear hT
  go_enter Tryd.func3, Tryd.ntmps3
  go_wp2_with fail
  refine (X1.out w).mono ?_
  rintro e w1 ⟨rfl, hb⟩
  have H1 := Lib.hid hb
  clear hb X1
  go_wp2_with fail
  refine (X2.out w1).mono ?_
  rintro e w2 ⟨rfl, hb⟩
  have H2 := Lib.hid (Nx.trans H1.out hb)
  clear hb X2 H1
  go_wp2_with fail
  refine (X3.out w2).mono ?_
  rintro e w3 ⟨rfl, hb⟩
  have H3 := Lib.hid (Nx.trans H2.out hb)
  clear hb X3 H2
  have e1 : S [46, 116, 109, 112, 47, 97, 47, 98] = ⟨#[46, 116, 109, 112, 47, 97, 47, 98]⟩ := rfl
  have e2 : S [97, 47, 98] = ⟨#[97, 47, 98]⟩ := rfl
  simp only [e1, e2]
  clear e1 e2
  go_wp2_with fail
  refine (X4.out w3 (T.out.next H3.out)).mono ?_
  rintro e w4 ⟨rfl, hb⟩
  have H4 := Lib.hid (Nx.trans H3.out hb)
  clear hb X4 H3 T
  go_wp2_with fail
  refine (X5.out w4).mono ?_
  rintro e w5 ⟨rfl, hb⟩
  have H5 := Lib.hid (Nx.trans H4.out hb)
  clear hb X5 H4
  go_wp2_with fail
  refine (X6.out w5).mono ?_
  rintro e w6 ⟨rfl, hb⟩
  have H6 := Lib.hid (Nx.trans H5.out hb)
  clear hb X6 H5
  go_wp2_with fail
  refine (X7.out w6).mono ?_
  rintro e w7 ⟨rfl, hb⟩
  have H7 := Lib.hid (Nx.trans H6.out hb)
  clear hb X7 H6
  go_wp2_with fail
  refine (X8.out w7).mono ?_
  rintro e w8 ⟨rfl, hb⟩
  have H8 := Lib.hid (Nx.trans H7.out hb)
  clear hb X8 H7
  go_wp2_with fail
  refine (X9.out w8).mono ?_
  rintro e w9 ⟨rfl, hb⟩
  have H9 := Lib.hid (Nx.trans H8.out hb)
  clear hb X9 H8
  go_wp2_with fail
  refine (XA.out w9).mono ?_
  rintro e wA ⟨rfl, hb⟩
  have HA := Lib.hid (Nx.trans H9.out hb)
  clear hb XA H9
  go_wp2
  go_ret
  exact ⟨rfl, HA.out⟩
end Go.Proofs.YtkffijgmcekboaaDoor

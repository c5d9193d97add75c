/- Package path: the chapter's examples. -/
import Derived.Test.YtkffijgmcekboaaDoorPtCopy
namespace Go.Proofs.YtkffijgmcekboaaDoor
open Go.RowKit
open Go.Lib (decDigits)
set_option linter.unusedVariables false

theorem dec2 : decDigits 2 = [50] := dec_one (by omega)
theorem dec3 : decDigits 3 = [51] := dec_one (by omega)
theorem dec0 : decDigits 0 = [48] := dec_one (by omega)
theorem dec12 : decDigits 12 = [49, 50] := Lib.decDigits_two (by omega) (by omega)
def exA : List UInt8 := [97, 47, 98, 46, 116, 120, 116]
def exAc : List UInt8 := [97, 47, 98, 46, 99, 50, 45, 48, 46, 116, 120, 116]
def exB : List UInt8 := [98]
def exBc : List UInt8 := [98, 46, 99, 51, 45, 49, 50]
theorem copy_exA : copyS exA 2 0 = exAc := by
  unfold copyS mark
  rw [dec2, dec0]
  decide
theorem copy_exB : copyS exB 3 12 = exBc := by
  unfold copyS mark
  rw [dec3, dec12]
  decide
theorem isCopy_exA : isCopy exAc exA 2 0 := copyR_ok.2 ⟨by decide, by decide, by
  show isPath (copyS exA 2 0) = true
  rw [copy_exA]
  decide, copy_exA.symm⟩
theorem isCopy_exB : isCopy exBc exB 3 12 := copyR_ok.2 ⟨by decide, by decide, by
  show isPath (copyS exB 3 12) = true
  rw [copy_exB]
  decide, copy_exB.symm⟩

theorem lawcopied_any (w : World) (l c : List UInt8) (d n : Int) (h : isCopy c l d n) (hT : Tab w) :
    Calls Tryd.prog 34 #[.string (S l), .int .i64 d, .int .i64 n, .string (S c)] w fun e w' => e = .returned (.bool true) ∧ Nx w w' := by
  have X := copy_any w l d n hT
  unfold isCopy at h
  rw [h] at X
  have X := Lib.hid X
  clear h hT
  generalize S l = s at *
  generalize S c = t at *
  go_enter Tryd.func34, Tryd.ntmps34
  go_wp2_with fail
  refine X.out.mono ?_
  rintro e w1 ⟨rfl, hb⟩
  have H1 := Lib.hid hb
  clear hb X
  go_wp2
  go_ret
  exact ⟨rfl, H1.out⟩

theorem lives_any (w : World) (hT : Tab w) :
    Calls Tryd.prog 10 #[] w fun e w' => e = .returned (.bool true) ∧ Nx w w' := by
  have X1 := fun W => split_any W exA
  rw [show folder (pathOr exA) = [97] from by decide, show base (pathOr exA) = [98, 46, 116, 120, 116] from by decide] at X1
  have X2 := fun W => end_any W exA
  rw [show stem (base (pathOr exA)) = [98] from by decide, show ending (base (pathOr exA)) = [46, 116, 120, 116] from by decide] at X2
  have X3 := fun W => copied_any W exBc exB 3 12 true (.inl ⟨isCopy_exB, rfl⟩)
  have X4 := fun W h => lawcopied_any W exA exAc 2 0 isCopy_exA h
  have X5 := fun W h => lawcopied_any W exB exBc 3 12 isCopy_exB h
  have X1 := Lib.hid X1
  have X2 := Lib.hid X2
  have X3 := Lib.hid X3
  have X4 := Lib.hid X4
  have X5 := Lib.hid X5
  have T := Lib.hid hT
  clear hT
  go_enter Tryd.func10, Tryd.ntmps10
  go_wp2_with fail
  refine (X1.out w).mono ?_
  rintro e w1 ⟨rfl, hb⟩
  have H1 := Lib.hid hb
  clear hb X1
  go_wp2_with fail
  refine (X2.out w1).mono ?_
  rintro e w2 ⟨rfl, hb⟩
  have H2 := Lib.hid (Nx.trans H1.out hb)
  clear hb X2 H1
  go_wp2_with fail
  refine (X3.out w2).mono ?_
  rintro e w3 ⟨rfl, hb⟩
  have H3 := Lib.hid (Nx.trans H2.out hb)
  clear hb X3 H2
  have e1 : S [97] = ⟨#[97]⟩ := rfl
  have e2 : S [98, 46, 116, 120, 116] = ⟨#[98, 46, 116, 120, 116]⟩ := rfl
  have e3 : S [98] = ⟨#[98]⟩ := rfl
  have e4 : S [46, 116, 120, 116] = ⟨#[46, 116, 120, 116]⟩ := rfl
  have e5 : S exB = ⟨#[98]⟩ := rfl
  rw [e1, e2, e3, e4, e5]
  clear e1 e2 e3 e4 e5
  go_wp2_with fail
  refine (X4.out w3 (T.out.next H3.out)).mono ?_
  rintro e w4 ⟨rfl, hb⟩
  have H4 := Lib.hid (Nx.trans H3.out hb)
  clear hb X4 H3
  go_wp2_with fail
  refine (X5.out w4 (T.out.next H4.out)).mono ?_
  rintro e w5 ⟨rfl, hb⟩
  have H5 := Lib.hid (Nx.trans H4.out hb)
  clear hb X5 H4
  go_wp2
  go_ret
  exact ⟨rfl, H5.out⟩
end Go.Proofs.YtkffijgmcekboaaDoor

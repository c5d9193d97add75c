/- The reference: right. -/
import Derived.Test.YtpgjnmakpghamaaDoorRfBegin
import Derived.BigQuiet
namespace Go.Proofs.YtpgjnmakpghamaaDoor
open Go.RowKit
set_option linter.unusedVariables false

set_option maxRecDepth 100000 in
theorem right_any (w : World) (x b : Nat) (ns : List Nat) (hx : x < 4294967296) (hn : ns.length ≤ 8) (hns : ∀ n ∈ ns, 1 ≤ n ∧ n ≤ 31) (hc : ∀ j, j < ns.length → w.cell? ⟨b, j, none⟩ = some (.int .i64 (ns.getD j 0 : Nat))) :
    Calls Tryd.prog 47 #[.int .u32 x, .slice (some ⟨b, 0, none⟩) ns.length ns.length] w fun e w' => e = .returned (.int .u32 (rotN x ns : Nat)) ∧ Below w.heap.size w w' := by
  have Hns := Lib.hid hns
  have Hc := Lib.hid hc
  obtain ⟨R, hR⟩ : ∃ R, rotN x ns = R := ⟨_, rfl⟩
  rw [hR]
  have Hst : Hid (∀ y, y = 0 → (ns.drop 0).foldl (fun y n => y ^^^ rot1 x n) y = R) := by
    rintro y rfl
    exact hR
  clear hns hc hR
  generalize hlen : ns.length = m at *
  have Hlen := Lib.hid hlen
  clear hlen
  go_enter Tryd.func47, Tryd.ntmps47
  go_wp2
  go_loopw [5, 6] (fun y x1 wr => ∃ Y i : Nat, y = .int .u32 Y ∧ x1 = .int .i64 i ∧ i ≤ m ∧ Y < 4294967296 ∧ (∀ p : Addr, p.block < w.heap.size → wr.cell? p = w.cell? p) ∧ Below w.heap.size w wr ∧ Hid ((ns.drop i).foldl (fun y n => y ^^^ rot1 x n) Y = R)) (fun _ x1 _ => m - (intOf x1).toNat)
  case atStart => exact ⟨0, 0, rfl, rfl, by omega, by omega, fun _ _ => rfl, Below.refl _ _, Hst.out 0 rfl⟩
  case round =>
    obtain ⟨Y, i, rfl, rfl, hi, hY, hcells, hbel, hfold⟩ := hrel
    clear Hst
    have Hcells := Lib.hid hcells
    have HB := Lib.hid hbel
    clear hcells hbel
    by_cases hlt : i < m
    · have hc0 := Hc.out i hlt
      have hc1 : wr.cell? ⟨b, i, none⟩ = some (.int .i64 (ns.getD i 0 : Nat)) := (Hcells.out _ (World.block_lt_of_cell? w _ hc0)).trans hc0
      have hil : i < ns.length := by rw [Hlen.out]; exact hlt
      have hd : ns.drop i = ns.getD i 0 :: ns.drop (i + 1) := by
        rw [List.drop_eq_getElem_cons hil, List.getD, List.getElem?_eq_getElem hil]
        rfl
      have hnn := Hns.out (ns.getD i 0) (by rw [List.getD, List.getElem?_eq_getElem hil]; exact List.getElem_mem _)
      have hfold2 := hfold.out
      rw [hd, List.foldl_cons] at hfold2
      clear hc0
      generalize ns.getD i 0 = n at *
      have Hf := Lib.hid hfold2
      clear hfold hfold2 hd
      have hs := rot_step Y x n hx hY
      have hs2 := Lib.hid hs
      have hn1 := hnn.1
      have hn31 := hnn.2
      have d1 : decide ((i : Int) < m) = true := by simp; omega
      have hm : (i : Int) < m := by omega
      have i0 : (0 : Int) ≤ i := by omega
      have hc2 : wr.drew.cell? ⟨b, i, none⟩ = some (.int .i64 (n : Int)) := hc1
      clear hs hnn
      go_upto_region 5 with fail
      go_quiet (fail)
      go_wp2
      go_roundw
      case rel => exact ⟨Y ^^^ rot1 x n, i + 1, by rw [hs2.out], by go_num, by omega, xor_lt _ _ hY (rot1_lt x n hx), fun p hp => Hcells.out p hp, ⟨HB.out.os, HB.out.tape, HB.out.output, HB.out.size, HB.out.block⟩, Hf.out⟩
      case measure => simp [intOf]; omega
    · obtain rfl : i = m := by omega
      have d1 : decide ((i : Int) < i) = false := by simp
      have hf := hfold.out
      rw [List.drop_eq_nil_of_le (by rw [Hlen.out]; exact Nat.le_refl _)] at hf
      obtain rfl : Y = R := hf
      clear hfold
      go_wp2
      go_ret
      exact ⟨rfl, HB.out⟩
end Go.Proofs.YtpgjnmakpghamaaDoor

/- The reference: digit. -/
import Derived.Test.YtpgjnmakpghamaaDoorDgParse
namespace Go.Proofs.YtpgjnmakpghamaaDoor
open Go.RowKit
set_option linter.unusedVariables false

/-- The value of a digit; -1: none. -/
def digV (x : Nat) : Int := if 48 ≤ x ∧ x ≤ 57 then (x : Int) - 48 else if 97 ≤ x ∧ x ≤ 102 then (x : Int) - 87 else -1
theorem digV_hex (i x : Nat) (hi : i < 16) (h : hexN i = x) : digV x = i := by
  subst h
  unfold hexN digV
  split
  · rw [if_pos (by omega)]
    omega
  · rw [if_neg (by omega), if_pos (by omega)]
    omega
theorem digV_none (x : Nat) (h : ∀ j, j < 16 → hexN j ≠ x) : digV x = -1 := by
  unfold digV
  by_cases h1 : 48 ≤ x ∧ x ≤ 57
  · exact absurd (by unfold hexN; rw [if_pos (by omega)]; omega) (h (x - 48) (by omega))
  · rw [if_neg h1]
    by_cases h2 : 97 ≤ x ∧ x ≤ 102
    · exact absurd (by unfold hexN; rw [if_neg (by omega)]; omega) (h (x - 87) (by omega))
    · rw [if_neg h2]
theorem digV_bounds (x : Nat) : -1 ≤ digV x ∧ digV x < 16 := by
  unfold digV
  split
  · omega
  · split <;> omega
theorem run_index_hex64 (w : World) (x : Nat) (hx : x < 16) : (Instr.index 9 (.string ⟨#[48, 49, 50, 51, 52, 53, 54, 55, 56, 57, 97, 98, 99, 100, 101, 102]⟩) (.int .i64 (x : Int))).run Tryd.prog w = .ok (.int .u8 ((hexN x : Nat) : Int)) w := by
  have h : x = 0 ∨ x = 1 ∨ x = 2 ∨ x = 3 ∨ x = 4 ∨ x = 5 ∨ x = 6 ∨ x = 7 ∨ x = 8 ∨ x = 9 ∨ x = 10 ∨ x = 11 ∨ x = 12 ∨ x = 13 ∨ x = 14 ∨ x = 15 := by omega
  rcases h with rfl | rfl | rfl | rfl | rfl | rfl | rfl | rfl | rfl | rfl | rfl | rfl | rfl | rfl | rfl | rfl <;> rfl

set_option maxRecDepth 100000 in
theorem digit_any (w : World) (x : Nat) (hx : x < 256) : Calls Tryd.prog 34 #[.int .u8 x] w fun e w' => e = .returned (.int .i64 (digV x)) ∧ w = w' := by
  obtain ⟨R, hR⟩ : ∃ R, digV x = R := ⟨_, rfl⟩
  rw [hR]
  have HR := Lib.hid hR
  clear hR
  go_enter Tryd.func34, Tryd.ntmps34
  go_wp2
  go_loopw [3] (fun y wr => ∃ i : Nat, y = .int .i64 i ∧ i ≤ 16 ∧ wr = w ∧ Hid (∀ j, j < i → hexN j ≠ x)) (fun y _ => 16 - (intOf y).toNat)
  case atStart => exact ⟨0, rfl, by omega, rfl, fun j hj => absurd hj (by omega)⟩
  case round =>
    obtain ⟨i, rfl, hi, rfl, hno⟩ := hrel
    by_cases hlt : i < 16
    · have hix := fun W => run_index_hex64 W i hlt
      obtain ⟨h, hh⟩ : ∃ h, hexN i = h := ⟨_, rfl⟩
      rw [hh] at hix
      by_cases he : h = x
      · subst he
        have hr : R = (i : Int) := by rw [← HR.out]; exact digV_hex i h hlt hh
        have Hr := Lib.hid hr
        clear hh hr
        go_wp2
        go_ret
        rw [Hr.out]
        exact ⟨rfl, rfl⟩
      · have hb : ((h : Int) == (x : Int)) = false := by simp; omega
        have hno2 : Hid (∀ j, j < i + 1 → hexN j ≠ x) := fun j hj => by
          by_cases e : j = i
          · subst e
            rw [hh]
            exact he
          · exact hno.out j (by omega)
        clear hh he hno
        go_wp2
        go_roundw
        case rel => exact ⟨i + 1, by congr 1, by omega, trivial, hno2⟩
        case measure => simp [intOf]; omega
    · obtain rfl : i = 16 := by omega
      have hr : R = -1 := by rw [← HR.out]; exact digV_none x hno.out
      have Hr := Lib.hid hr
      clear hr hno
      go_wp2
      go_ret
      rw [Hr.out]
      exact ⟨rfl, rfl⟩
end Go.Proofs.YtpgjnmakpghamaaDoor

/- The reference: less, root. -/
import Derived.Test.YtpgjnmakpghamaaDoorDgRoot
namespace Go.Proofs.YtpgjnmakpghamaaDoor
open Go.RowKit
set_option linter.unusedVariables false

def leS (p x : Nat) : Bool := decide (x * x / 18446744073709551616 < p ∨ x * x / 18446744073709551616 = p ∧ x * x % 18446744073709551616 = 0)
def leC (p x : Nat) : Bool := decide (x * x / 18446744073709551616 * x + x * x % 18446744073709551616 * x / 18446744073709551616 < p * 4294967296 ∨
  x * x / 18446744073709551616 * x + x * x % 18446744073709551616 * x / 18446744073709551616 = p * 4294967296 ∧ x * x % 18446744073709551616 * x % 18446744073709551616 = 0)

theorem less_sq (x p : Nat) (hx : x ≤ 137438953472) (hp : p ≤ 65535) (w : World) :
    Calls Tryd.prog 53 #[.int .u64 x, .int .u64 p, .bool false] w fun e w' => e = .returned (.bool (leS p x)) ∧ w = w' := by
  have Hm := Lib.hid (mul64_any x x (by omega) (by omega) w)
  unfold leS
  generalize x * x / 18446744073709551616 = h at *
  generalize x * x % 18446744073709551616 = l at *
  go_enter Tryd.func53, Tryd.ntmps53
  go_wp2_with fail
  refine Hm.out.mono ?_
  rintro e w' ⟨rfl, rfl⟩
  go_wp2
  all_goals go_ret
  all_goals refine ⟨?_, rfl⟩
  all_goals simp
  all_goals first
    | omega
    | (rw [Bool.eq_iff_iff]; simp; omega)

theorem less_cu (x p : Nat) (hx : x ≤ 137438953472) (hp : p ≤ 65535) (w : World) :
    Calls Tryd.prog 53 #[.int .u64 x, .int .u64 p, .bool true] w fun e w' => e = .returned (.bool (leC p x)) ∧ w = w' := by
  have Hm := Lib.hid (mul64_any x x (by omega) (by omega) w)
  have Hm2 := Lib.hid (mul64_any (x * x % 18446744073709551616) x (by omega) (by omega) w)
  have hh : x * x / 18446744073709551616 ≤ 1024 := by
    have := Nat.mul_le_mul hx hx
    omega
  have hhr : x * x / 18446744073709551616 * x ≤ 1024 * 137438953472 := Nat.mul_le_mul hh hx
  have hc : x * x % 18446744073709551616 * x / 18446744073709551616 ≤ 137438953472 := by
    have : x * x % 18446744073709551616 * x ≤ 18446744073709551616 * 137438953472 := Nat.mul_le_mul (by omega) hx
    omega
  have hcast : ((x * x / 18446744073709551616 : Nat) : Int) * x = ((x * x / 18446744073709551616 * x : Nat) : Int) := (Int.natCast_mul _ _).symm
  unfold leC
  generalize x * x / 18446744073709551616 * x = hr' at *
  generalize x * x % 18446744073709551616 * x / 18446744073709551616 = cc at *
  generalize x * x / 18446744073709551616 = h at *
  generalize x * x % 18446744073709551616 * x % 18446744073709551616 = cl at *
  generalize x * x % 18446744073709551616 = l at *
  obtain ⟨q, hq⟩ : ∃ q, p * 4294967296 = q := ⟨_, rfl⟩
  obtain ⟨s, hs⟩ : ∃ s, hr' + cc = s := ⟨_, rfl⟩
  have e1 : IntKind.u64.wrap ((h : Int) * x) = (hr' : Int) := by rw [hcast]; exact IntWalk.u64_in _ (by omega)
  have e2 : IntKind.u64.wrap ((cc : Int) + hr') = (s : Int) := by rw [IntWalk.u64_in _ (by omega)]; omega
  have e3 : (p : Int) * 4294967296 = (q : Int) := by omega
  rw [hq, hs]
  have E1 := Lib.hid e1
  have E2 := Lib.hid e2
  have E3 := Lib.hid e3
  have hs' : s ≤ 1024 * 137438953472 + 137438953472 := by omega
  clear hcast e1 e2 e3 hq hs
  go_enter Tryd.func53, Tryd.ntmps53
  go_wp2_with fail
  refine Hm.out.mono ?_
  rintro e w' ⟨rfl, rfl⟩
  go_wp2_with fail
  refine Hm2.out.mono ?_
  rintro e w' ⟨rfl, rfl⟩
  have e1 := E1.out
  have e2 := E2.out
  have e3 := E3.out
  go_wp2
  all_goals go_ret
  all_goals refine ⟨?_, rfl⟩
  all_goals simp
  all_goals first
    | omega
    | (rw [Bool.eq_iff_iff]; simp; omega)

set_option maxRecDepth 100000 in
theorem rroot_any (cube : Bool) (f : Nat → Bool) (p : Nat) (w : World) (hg : ∀ r : Nat, r ≤ 137438953472 → Calls Tryd.prog 53 #[.int .u64 r, .int .u64 p, .bool cube] w fun e w' => e = .returned (.bool (f r)) ∧ w = w') :
    Calls Tryd.prog 41 #[.int .u64 p, .bool cube] w fun e w' => e = .returned (.int .u32 (rootGo f 37 0 % 4294967296 : Nat)) ∧ w = w' := by
  have Hg := Lib.hid hg
  obtain ⟨R, hR⟩ : ∃ R, rootGo f 37 0 = R := ⟨_, rfl⟩
  rw [hR]
  have hst : Hid (R = rootGo f 37 0) := hR.symm
  clear hg hR
  go_enter Tryd.func41, Tryd.ntmps41
  go_wp2
  go_loopw [5, 6] (fun x y wr => ∃ k lo D : Nat, x = .int .u64 lo ∧ y = .int .u64 (lo + D : Nat) ∧ lo + D ≤ 137438953472 ∧ Hid (D = 2 ^ k) ∧ wr = w ∧ Hid (R = rootGo f k lo)) (fun x y _ => ((intOf y) - (intOf x)).toNat)
  case atStart => exact ⟨37, 0, 137438953472, rfl, rfl, Nat.le_refl _, by unfold Hid; decide, rfl, hst⟩
  case round =>
    obtain ⟨k, lo, D, rfl, rfl, hD, hDk, rfl, hrel⟩ := hrel
    cases k with
    | zero =>
      obtain rfl : D = 1 := hDk.out
      go_wp2
      go_ret
      rw [hrel.out]
      exact ⟨rfl, rfl⟩
    | succ k =>
      obtain ⟨E, hE⟩ : ∃ E, 2 ^ k = E := ⟨_, rfl⟩
      have hE0 : 0 < E := by rw [← hE]; exact Nat.pos_of_ne_zero (by simp)
      obtain rfl : D = E * 2 := by rw [hDk.out, Nat.pow_succ, hE]
      have hrel2 := hrel.out
      unfold rootGo at hrel2
      rw [hE] at hrel2
      have HE := Lib.hid hE
      have Hrel2 := Lib.hid hrel2
      have Hc := Lib.hid (Hg.out (lo + E) (by omega))
      have e2 : ((lo : Int) + ((lo : Int) + (E : Int) * 2)) / 2 = ((lo + E : Nat) : Int) := by omega
      have b1 : decide ((1 : Int) < (lo : Int) + (E : Int) * 2 - (lo : Int)) = true := by simp; omega
      clear hE hrel2 hDk hrel hst
      by_cases hf : f (lo + E) = true
      · have hc := Hc.out
        have hr := Hrel2.out
        rw [hf] at hc
        rw [if_pos hf] at hr
        have Hc2 := Lib.hid hc
        have Hr := Lib.hid hr
        clear hc hr Hrel2 hf Hc
        go_wp2_with fail
        refine Hc2.out.mono ?_
        rintro e w' ⟨rfl, rfl⟩
        go_wp2
        go_roundw
        case rel => exact ⟨k, lo + E, E, rfl, by go_num, by omega, HE.out.symm, by simp, Hr.out⟩
        case measure => simp [intOf]; omega
      · have hc := Hc.out
        have hr := Hrel2.out
        rw [if_neg hf] at hr
        rw [Bool.not_eq_true] at hf
        rw [hf] at hc
        have Hc2 := Lib.hid hc
        have Hr := Lib.hid hr
        clear hc hr Hrel2 hf Hc
        go_wp2_with fail
        refine Hc2.out.mono ?_
        rintro e w' ⟨rfl, rfl⟩
        go_wp2
        go_roundw
        case rel => exact ⟨k, lo, E, rfl, by go_num, by omega, HE.out.symm, by simp, Hr.out⟩
        case measure => simp [intOf]; omega

theorem refS (p : Nat) (hp : p ≤ 65535) (w : World) : Calls Tryd.prog 41 #[.int .u64 p, .bool false] w fun e w' => e = .returned (.int .u32 (rootGo (leS p) 37 0 % 4294967296 : Nat)) ∧ w = w' :=
  rroot_any false (leS p) p w fun r hr => less_sq r p hr hp w
theorem refC (p : Nat) (hp : p ≤ 65535) (w : World) : Calls Tryd.prog 41 #[.int .u64 p, .bool true] w fun e w' => e = .returned (.int .u32 (rootGo (leC p) 37 0 % 4294967296 : Nat)) ∧ w = w' :=
  rroot_any true (leC p) p w fun r hr => less_cu r p hr hp w
end Go.Proofs.YtpgjnmakpghamaaDoor

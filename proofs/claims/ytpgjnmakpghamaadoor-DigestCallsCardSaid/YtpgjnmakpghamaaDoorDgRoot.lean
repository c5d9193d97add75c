/- Contracts: the two tests, the roots. -/
import Derived.Test.YtpgjnmakpghamaaDoorDgBits
namespace Go.Proofs.YtpgjnmakpghamaaDoor
open Go.RowKit
set_option linter.unusedVariables false

def sqB (p r : Nat) : Bool := decide (r * r / 18446744073709551616 < p)
def cuB (p r : Nat) : Bool := decide (r * r / 18446744073709551616 * r + r * r % 18446744073709551616 * r / 18446744073709551616 < p * 4294967296)

theorem square_any (r p : Nat) (hr : r < 18446744073709551616) (hp : p < 18446744073709551616) (w : World) :
    Calls Tryd.prog 32 #[.int .u64 r, .int .u64 p] w fun e w' => e = .returned (.bool (sqB p r)) ∧ w = w' := by
  have Hm := Lib.hid (mul64_any r r hr hr w)
  unfold sqB
  generalize r * r / 18446744073709551616 = h at *
  generalize r * r % 18446744073709551616 = l at *
  go_enter Tryd.func32, Tryd.ntmps32
  go_wp2_with fail
  refine Hm.out.mono ?_
  rintro e w' ⟨rfl, rfl⟩
  go_wp2
  go_ret
  exact ⟨by simp, rfl⟩

theorem cube_any (r p : Nat) (hr : r ≤ 34359738368) (hp : p ≤ 65535) (w : World) :
    Calls Tryd.prog 33 #[.int .u64 r, .int .u64 p] w fun e w' => e = .returned (.bool (cuB p r)) ∧ w = w' := by
  have Hm := Lib.hid (mul64_any r r (by omega) (by omega) w)
  have Hm2 := Lib.hid (mul64_any (r * r % 18446744073709551616) r (by omega) (by omega) w)
  have hh : r * r / 18446744073709551616 ≤ 64 := by
    have := Nat.mul_le_mul hr hr
    omega
  have hhr : r * r / 18446744073709551616 * r ≤ 64 * 34359738368 := Nat.mul_le_mul hh hr
  have hc : r * r % 18446744073709551616 * r / 18446744073709551616 ≤ 34359738368 := by
    have : r * r % 18446744073709551616 * r ≤ 18446744073709551616 * 34359738368 := Nat.mul_le_mul (by omega) hr
    omega
  have hcast : ((r * r / 18446744073709551616 : Nat) : Int) * r = ((r * r / 18446744073709551616 * r : Nat) : Int) := (Int.natCast_mul _ _).symm
  unfold cuB
  generalize r * r / 18446744073709551616 * r = hr' at *
  generalize r * r % 18446744073709551616 * r / 18446744073709551616 = cc at *
  generalize r * r / 18446744073709551616 = h at *
  generalize r * r % 18446744073709551616 * r % 18446744073709551616 = cl at *
  generalize r * r % 18446744073709551616 = l at *
  have e1 : IntKind.u64.wrap ((h : Int) * r) = (hr' : Int) := by rw [hcast]; exact IntWalk.u64_in _ (by omega)
  have e2 : IntKind.u64.wrap ((hr' : Int) + cc) = (hr' : Int) + cc := IntWalk.u64_in _ (by omega)
  have E1 := Lib.hid e1
  clear hcast e1
  go_enter Tryd.func33, Tryd.ntmps33
  go_wp2_with fail
  refine Hm.out.mono ?_
  rintro e w' ⟨rfl, rfl⟩
  go_wp2_with fail
  refine Hm2.out.mono ?_
  rintro e w' ⟨rfl, rfl⟩
  have e1 := E1.out
  go_wp2
  go_ret
  refine ⟨?_, rfl⟩
  simp
  omega

/-- k halvings of a span of 2^k from lo on. -/
def rootGo (f : Nat → Bool) : Nat → Nat → Nat
  | 0, lo => lo
  | k + 1, lo => rootGo f k (if f (lo + 2 ^ k) then lo + 2 ^ k else lo)

set_option maxRecDepth 100000 in
theorem root_any (g : FuncId) (f : Nat → Bool) (p : Nat) (w : World) (hen : ∀ args W, (callFunc g args).run Tryd.prog W = .ok (.enter g args) W) (hg : ∀ r : Nat, r ≤ 34359738368 → Calls Tryd.prog g #[.int .u64 r, .int .u64 p] w fun e w' => e = .returned (.bool (f r)) ∧ w = w') :
    Calls Tryd.prog 31 #[.int .u64 p, .func (.func g) #[] #[]] w fun e w' => e = .returned (.int .u64 (rootGo f 35 0 : Nat)) ∧ w = w' := by
  have Hg := Lib.hid hg
  obtain ⟨R, hR⟩ : ∃ R, rootGo f 35 0 = R := ⟨_, rfl⟩
  rw [hR]
  have hst : Hid (R = rootGo f 35 0) := hR.symm
  clear hg hR
  go_enter Tryd.func31, Tryd.ntmps31
  go_wp2
  go_loopw [5, 6] (fun x y wr => ∃ k lo D : Nat, x = .int .u64 lo ∧ y = .int .u64 (lo + D : Nat) ∧ lo + D ≤ 34359738368 ∧ Hid (D = 2 ^ k) ∧ wr = w ∧ Hid (R = rootGo f k lo)) (fun x y _ => ((intOf y) - (intOf x)).toNat)
  case atStart => exact ⟨35, 0, 34359738368, rfl, rfl, Nat.le_refl _, by unfold Hid; decide, rfl, hst⟩
  case round =>
    obtain ⟨k, lo, D, rfl, rfl, hD, hDk, rfl, hrel⟩ := hrel
    cases k with
    | zero =>
      obtain rfl : D = 1 := hDk.out
      go_wp2
      go_ret
      rw [hrel.out]
      exact ⟨rfl, rfl⟩
    | succ k =>
      obtain ⟨E, hE⟩ : ∃ E, 2 ^ k = E := ⟨_, rfl⟩
      have hE0 : 0 < E := by rw [← hE]; exact Nat.pos_of_ne_zero (by simp)
      obtain rfl : D = E * 2 := by rw [hDk.out, Nat.pow_succ, hE]
      have hrel2 := hrel.out
      unfold rootGo at hrel2
      rw [hE] at hrel2
      have HE := Lib.hid hE
      have Hrel2 := Lib.hid hrel2
      have Hc := Lib.hid (Hg.out (lo + E) (by omega))
      have e2 : ((lo : Int) + ((lo : Int) + (E : Int) * 2)) / 2 = ((lo + E : Nat) : Int) := by omega
      have b1 : decide ((1 : Int) < (lo : Int) + (E : Int) * 2 - (lo : Int)) = true := by simp; omega
      clear hE hrel2 hDk hrel hst
      by_cases hf : f (lo + E) = true
      · have hc := Hc.out
        have hr := Hrel2.out
        rw [hf] at hc
        rw [if_pos hf] at hr
        have Hc2 := Lib.hid hc
        have Hr := Lib.hid hr
        clear hc hr Hrel2 hf Hc
        go_wp2_with fail
        refine Hc2.out.mono ?_
        rintro e w' ⟨rfl, rfl⟩
        go_wp2
        go_roundw
        case rel => exact ⟨k, lo + E, E, rfl, by go_num, by omega, HE.out.symm, by simp, Hr.out⟩
        case measure => simp [intOf]; omega
      · have hc := Hc.out
        have hr := Hrel2.out
        rw [if_neg hf] at hr
        rw [Bool.not_eq_true] at hf
        rw [hf] at hc
        have Hc2 := Lib.hid hc
        have Hr := Lib.hid hr
        clear hc hr Hrel2 hf Hc
        go_wp2_with fail
        refine Hc2.out.mono ?_
        rintro e w' ⟨rfl, rfl⟩
        go_wp2
        go_roundw
        case rel => exact ⟨k, lo, E, rfl, by go_num, by omega, HE.out.symm, by simp, Hr.out⟩
        case measure => simp [intOf]; omega
end Go.Proofs.YtpgjnmakpghamaaDoor

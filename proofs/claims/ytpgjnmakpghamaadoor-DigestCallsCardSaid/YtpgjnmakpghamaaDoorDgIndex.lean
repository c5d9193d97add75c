/- strings.IndexByte over the digits, of every byte. -/
import Derived.Test.YtpgjnmakpghamaaDoorRfDigit
namespace Go.Proofs.YtpgjnmakpghamaaDoor
open Go.RowKit
set_option linter.unusedVariables false

def hexA : ByteArray := ⟨#[48, 49, 50, 51, 52, 53, 54, 55, 56, 57, 97, 98, 99, 100, 101, 102]⟩
theorem find_hex (c : Nat) (hc : c < 256) : (match (List.range 16).find? (fun i => hexA[i]! == UInt8.ofNat c) with | some i => (i : Int) | none => -1) = digV c := by
  have : ∀ j : Fin 256, (match (List.range 16).find? (fun i => hexA[i]! == UInt8.ofNat j.val) with | some i => (i : Int) | none => -1) = digV j.val := by decide +kernel
  exact this ⟨c, hc⟩
theorem run_index_any (w : World) (c : Nat) (hc : c < 256) : (callFunc 54 #[.string ⟨#[48, 49, 50, 51, 52, 53, 54, 55, 56, 57, 97, 98, 99, 100, 101, 102]⟩, .int .u8 c]).run Tryd.prog w = .ok (.value (.int .i64 (digV c))) w := by
  have e := find_hex c hc
  have h : (callFunc 54 #[.string ⟨#[48, 49, 50, 51, 52, 53, 54, 55, 56, 57, 97, 98, 99, 100, 101, 102]⟩, .int .u8 c]).run Tryd.prog w =
      ((match (List.range 16).find? (fun i => hexA[i]! == UInt8.ofNat c) with | some i => (pure (goInt i) : Sem Value) | none => pure (goInt (-1))) >>= fun v => pure (Next.value v)).run Tryd.prog w := rfl
  rw [h]
  revert e
  cases (List.range 16).find? (fun i => hexA[i]! == UInt8.ofNat c) with
  | none =>
    intro e
    rw [← e]
    rfl
  | some i =>
    intro e
    rw [← e]
    rfl
set_option maxRecDepth 100000 in
theorem index_any1 (w : World) (c : Nat) (hc : c < 256) : Calls Tryd.prog 45 #[.string ⟨#[48, 49, 50, 51, 52, 53, 54, 55, 56, 57, 97, 98, 99, 100, 101, 102]⟩, .int .u8 c] w fun e w' => e = .returned (.int .i64 (digV c)) ∧ w = w' := by
  have hr := fun W => run_index_any W c hc
  generalize digV c = v at *
  go_enter Tryd.func45, Tryd.ntmps45
  go_wp2
  go_ret
  exact ⟨rfl, rfl⟩
theorem index_any (w : World) (c : Nat) (hc : c < 256) : Calls Tryd.prog 29 #[.string ⟨#[48, 49, 50, 51, 52, 53, 54, 55, 56, 57, 97, 98, 99, 100, 101, 102]⟩, .int .u8 c] w fun e w' => e = .returned (.int .i64 (digV c)) ∧ w = w' := by
  have H := Lib.hid (index_any1 w c hc)
  generalize digV c = v at *
  go_enter Tryd.func29, Tryd.ntmps29
  go_wp2_with fail
  refine H.out.mono ?_
  rintro e w' ⟨rfl, rfl⟩
  go_wp2
  go_ret
  exact ⟨rfl, rfl⟩
end Go.Proofs.YtpgjnmakpghamaaDoor

/- The walk of the law WireCalls, whatever the input. -/
import Derived.Test.YtpgjnmakpghamaaCallsHeld
namespace Go.Proofs.Ytpgjnmakpghamaa
open Go.RowKit
set_option linter.unusedVariables false

theorem calls_any (w : World) (n c : Nat) (A : Option Addr) (l : List UInt8) (x a b m : Int) (s : ByteArray) (hb : Byt w w.heap.size A n c l) (hx : (Lit.int .u64 x).wf = true) (hs : s.size ≤ maxLen) (ha : (Lit.int .u32 a).wf = true) (hb' : (Lit.int .u32 b).wf = true) (hm : (Lit.int .i64 m).wf = true) :
    Calls Try.prog 4 #[.slice A n c, .int .u64 x, .string s, .int .u32 a, .int .u32 b, .int .i64 m] w (LivesPost w) := by
  have hcap := hb.cap
  have hle := hb.le
  unfold maxLen at hcap hs
  by_cases h : 5000 < n ∨ 5000 < s.size
  · exact calls_out w n c A x a b m s (by omega) (by omega) h
  · obtain ⟨x1, x2⟩ := wfU64 hx
    obtain ⟨a1, a2⟩ := wfU32 ha
    obtain ⟨b1, b2⟩ := wfU32 hb'
    obtain ⟨x, rfl⟩ := Int.eq_ofNat_of_zero_le x1
    obtain ⟨a, rfl⟩ := Int.eq_ofNat_of_zero_le a1
    obtain ⟨b, rfl⟩ := Int.eq_ofNat_of_zero_le b1
    exact calls_in w n c a b A x m s l hb (by omega) (by omega) (by omega) (by omega) (by omega) (wfI64 hm).1 (wfI64 hm).2
end Go.Proofs.Ytpgjnmakpghamaa

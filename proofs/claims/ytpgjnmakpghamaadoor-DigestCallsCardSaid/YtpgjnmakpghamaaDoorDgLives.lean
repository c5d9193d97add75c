/- The examples of the chapter: told, lives. -/
import Derived.Test.YtpgjnmakpghamaaDoorDgOf
namespace Go.Proofs.YtpgjnmakpghamaaDoor
open Go.RowKit
set_option linter.unusedVariables false

theorem of_none : textU (ofN []) = [101, 51, 98, 48, 99, 52, 52, 50, 57, 56, 102, 99, 49, 99, 49, 52, 57, 97, 102, 98, 102, 52, 99, 56, 57, 57, 54, 102, 98, 57, 50, 52, 50, 55, 97, 101, 52, 49, 101, 52, 54, 52, 57, 98, 57, 51, 52, 99, 97, 52, 57, 53, 57, 57, 49, 98, 55, 56, 53, 50, 98, 56, 53, 53] := by decide +kernel
theorem of_abc : textU (ofN [97, 98, 99]) = [98, 97, 55, 56, 49, 54, 98, 102, 56, 102, 48, 49, 99, 102, 101, 97, 52, 49, 52, 49, 52, 48, 100, 101, 53, 100, 97, 101, 50, 50, 50, 51, 98, 48, 48, 51, 54, 49, 97, 51, 57, 54, 49, 55, 55, 97, 57, 99, 98, 52, 49, 48, 102, 102, 54, 49, 102, 50, 48, 48, 49, 53, 97, 100] := by decide +kernel

theorem told_any (w : World) (hp : Primes w) (s want : ByteArray) (hs : s.size ≤ 1099511627776) (ht : (⟨(textU (ofN s.data.toList)).toArray⟩ : ByteArray) = want) :
    Calls Tryd.prog 30 #[.string s, .string want] w fun e w' => e = .returned (.bool true) ∧ Below w.heap.size w w' := by
  have Hp := Lib.hid hp
  have Ht := Lib.hid ht
  obtain ⟨c, w1, hrun, hby, hb1, hz⟩ := run_bytes_of_string' w s (by unfold maxLen; omega)
  have Hby := Lib.hid hby
  have B1 := Lib.hid hb1
  clear hp ht hby hb1 hz
  go_enter Tryd.func30, Tryd.ntmps30
  go_wp2_with fail
  refine (of_any w1 (Hp.out.here B1.out) _ s.size c _ s.data.toList Hby.out (Nat.le_refl _) hs).mono ?_
  rintro e w2 ⟨rfl, hb2⟩
  have B2 := Lib.hid (Below.onR B1.out hb2)
  clear hb2
  go_wp2_with fail
  refine (text_any w2 (ofN s.data.toList) (dgN_length _) (dgN_bytes _)).mono ?_
  rintro e w3 ⟨rfl, hb3⟩
  rw [Ht.out]
  have B3 := Lib.hid (Below.onR B2.out hb3)
  clear hb3
  go_wp2
  go_ret
  exact ⟨rfl, B3.out⟩

def LivesPost (w : World) (e : Ending) (w' : World) : Prop := e = .returned (.bool true) ∧ Below w.heap.size w w'
theorem lives_any (w : World) (hp : Primes w) : Calls Tryd.prog 9 #[] w (LivesPost w) := by
  have Hp := Lib.hid hp
  have t1 := told_any w hp ⟨#[]⟩ ⟨#[101, 51, 98, 48, 99, 52, 52, 50, 57, 56, 102, 99, 49, 99, 49, 52, 57, 97, 102, 98, 102, 52, 99, 56, 57, 57, 54, 102, 98, 57, 50, 52, 50, 55, 97, 101, 52, 49, 101, 52, 54, 52, 57, 98, 57, 51, 52, 99, 97, 52, 57, 53, 57, 57, 49, 98, 55, 56, 53, 50, 98, 56, 53, 53]⟩ (by decide) (by rw [show (⟨#[]⟩ : ByteArray).data.toList = [] from rfl, of_none])
  have T1 := Lib.hid t1
  have T2 : Hid (∀ W, Primes W → Calls Tryd.prog 30 #[.string ⟨#[97, 98, 99]⟩, .string ⟨#[98, 97, 55, 56, 49, 54, 98, 102, 56, 102, 48, 49, 99, 102, 101, 97, 52, 49, 52, 49, 52, 48, 100, 101, 53, 100, 97, 101, 50, 50, 50, 51, 98, 48, 48, 51, 54, 49, 97, 51, 57, 54, 49, 55, 55, 97, 57, 99, 98, 52, 49, 48, 102, 102, 54, 49, 102, 50, 48, 48, 49, 53, 97, 100]⟩] W fun e w' => e = .returned (.bool true) ∧ Below W.heap.size W w') :=
    fun W hW => told_any W hW ⟨#[97, 98, 99]⟩ ⟨#[98, 97, 55, 56, 49, 54, 98, 102, 56, 102, 48, 49, 99, 102, 101, 97, 52, 49, 52, 49, 52, 48, 100, 101, 53, 100, 97, 101, 50, 50, 50, 51, 98, 48, 48, 51, 54, 49, 97, 51, 57, 54, 49, 55, 55, 97, 57, 99, 98, 52, 49, 48, 102, 102, 54, 49, 102, 50, 48, 48, 49, 53, 97, 100]⟩ (by decide) (by rw [show (⟨#[97, 98, 99]⟩ : ByteArray).data.toList = [97, 98, 99] from rfl, of_abc])
  clear hp t1
  go_enter Tryd.func9, Tryd.ntmps9
  go_wp2_with fail
  refine T1.out.mono ?_
  rintro e w1 ⟨rfl, hb1⟩
  have B1 := Lib.hid hb1
  clear hb1
  go_wp2_with fail
  refine (T2.out w1 (Hp.out.here B1.out)).mono ?_
  rintro e w2 ⟨rfl, hb2⟩
  go_wp2
  go_ret
  exact ⟨rfl, Below.onR B1.out hb2⟩
end Go.Proofs.YtpgjnmakpghamaaDoor

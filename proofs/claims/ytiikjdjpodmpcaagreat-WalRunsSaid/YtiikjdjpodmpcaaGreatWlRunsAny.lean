/- The law WalRuns: lists that are too long, too. -/
import Derived.Test.YtiikjdjpodmpcaaGreatWlRuns
namespace Go.Proofs.YtiikjdjpodmpcaaGreat
open Go.RowKit Go.Maps
set_option linter.unusedVariables false

set_option maxRecDepth 100000 in
set_option maxHeartbeats 2000000 in
theorem walRuns_any (w : World) (A1 A2 : Option Addr) (n1 c1 n2 c2 : Nat) (a b : List Str) (h1 : SArg w A1 n1 c1 a) (h2 : SArg w A2 n2 c2 b) :
    Calls Tryz.prog 8 #[.slice A1 n1 c1, .slice A2 n2 c2] w fun e w' => e = .returned (.bool true) ∧ Below w.heap.size w w' := by
  cases l1 : lightB 30 300 a with
  | false =>
    have LT1 : Hid (∀ W, Nx w W → Calls Tryz.prog 16 #[.slice A1 n1 c1, .int .i64 30, .int .i64 300] W fun e w' => e = .returned (.bool false) ∧ Nx w w') := fun W hW => (light_any W A1 n1 c1 a (h1.nx hW) 30 300 (by decide) (by decide)).mono fun e w' ⟨e1, m, e2⟩ => ⟨by rw [e1, l1], by rw [e2]; exact hW.drewN m⟩
    have LV := Lib.hid (lives_any w)
    clear h1 h2 l1
    go_enter Tryz.func8, Tryz.ntmps8
    go_wp2_with fail
    refine LV.out.mono ?_
    rintro e w1 ⟨rfl, hb⟩
    have H1 := Lib.hid hb
    clear hb LV
    go_wp2_with fail
    refine (LT1.out w1 H1.out).mono ?_
    rintro e w2 ⟨rfl, hb⟩
    have H2 := Lib.hid hb
    clear hb LT1
    go_wp2
    go_ret
    exact ⟨rfl, H2.out⟩
  | true =>
    cases l2 : lightB 30 300 b with
    | false =>
      have LT1 : Hid (∀ W, Nx w W → Calls Tryz.prog 16 #[.slice A1 n1 c1, .int .i64 30, .int .i64 300] W fun e w' => e = .returned (.bool true) ∧ Nx w w') := fun W hW => (light_any W A1 n1 c1 a (h1.nx hW) 30 300 (by decide) (by decide)).mono fun e w' ⟨e1, m, e2⟩ => ⟨by rw [e1, l1], by rw [e2]; exact hW.drewN m⟩
      have LT2 : Hid (∀ W, Nx w W → Calls Tryz.prog 16 #[.slice A2 n2 c2, .int .i64 30, .int .i64 300] W fun e w' => e = .returned (.bool false) ∧ Nx w w') := fun W hW => (light_any W A2 n2 c2 b (h2.nx hW) 30 300 (by decide) (by decide)).mono fun e w' ⟨e1, m, e2⟩ => ⟨by rw [e1, l2], by rw [e2]; exact hW.drewN m⟩
      have LV := Lib.hid (lives_any w)
      clear h1 h2 l1 l2
      go_enter Tryz.func8, Tryz.ntmps8
      go_wp2_with fail
      refine LV.out.mono ?_
      rintro e w1 ⟨rfl, hb⟩
      have H1 := Lib.hid hb
      clear hb LV
      go_wp2_with fail
      refine (LT1.out w1 H1.out).mono ?_
      rintro e w2 ⟨rfl, hb⟩
      have H2 := Lib.hid hb
      clear hb LT1
      go_wp2_with fail
      refine (LT2.out w2 H2.out).mono ?_
      rintro e w3 ⟨rfl, hb⟩
      have H3 := Lib.hid hb
      clear hb LT2
      go_wp2
      go_ret
      exact ⟨rfl, H3.out⟩
    | true => exact walRuns_in w A1 A2 n1 c1 n2 c2 a b h1 h2 l1 l2
end Go.Proofs.YtiikjdjpodmpcaaGreat

/- The law WalKeeps: lists that are too long, too. -/
import Derived.Test.YtiikjdjpodmpcaaGreatWlKeeps
namespace Go.Proofs.YtiikjdjpodmpcaaGreat
open Go.RowKit Go.Maps
set_option linter.unusedVariables false

set_option maxRecDepth 100000 in
set_option maxHeartbeats 2000000 in
theorem walKeeps_any (w : World) (A1 A2 A3 A4 : Option Addr) (n1 c1 n2 c2 n3 c3 n4 c4 : Nat) (a b c : List Str) (fuse keep : Int) (h1 : SArg w A1 n1 c1 a) (h2 : SArg w A2 n2 c2 b) (h3 : SArg w A3 n3 c3 c) (h4 : n4 ≤ 100000 → ∃ parts, Nums w A4 n4 c4 parts) (hn4 : n4 ≤ maxLen) (hfuse : fuse ≤ 9223372036854775807) (hkeep : keep ≤ 9223372036854775807) :
    Calls Tryz.prog 7 #[.slice A1 n1 c1, .slice A2 n2 c2, .slice A3 n3 c3, .int .i64 fuse, .int .i64 keep, .slice A4 n4 c4] w fun e w' => e = .returned (.bool true) ∧ Below w.heap.size w w' := by
  have LT : ∀ (A : Option Addr) (n q : Nat) (l : List Str), SArg w A n q l → ∀ r, lightB 50 3000 l = r → Hid (∀ W, Nx w W → Calls Tryz.prog 16 #[.slice A n q, .int .i64 50, .int .i64 3000] W fun e w' => e = .returned (.bool r) ∧ Nx w w') := fun A n q l h r hr W hW => (light_any W A n q l (h.nx hW) 50 3000 (by decide) (by decide)).mono fun e w' ⟨e1, m, e2⟩ => ⟨by rw [e1, hr], by rw [e2]; exact hW.drewN m⟩
  cases l1 : lightB 50 3000 a with
  | false =>
    have LT1 := LT _ _ _ _ h1 _ l1
    have LV := Lib.hid (lives_any w)
    clear h1 h2 h3 h4 l1 LT
    go_enter Tryz.func7, Tryz.ntmps7
    go_wp2_with fail
    refine LV.out.mono ?_
    rintro e w1 ⟨rfl, hb⟩
    have H1 := Lib.hid hb
    clear hb LV
    go_wp2_with fail
    refine (LT1.out w1 H1.out).mono ?_
    rintro e w2 ⟨rfl, hb⟩
    have H2 := Lib.hid hb
    clear hb LT1
    go_wp2
    go_ret
    exact ⟨rfl, H2.out⟩
  | true =>
    cases l2 : lightB 50 3000 b with
    | false =>
      have LT1 := LT _ _ _ _ h1 _ l1
      have LT2 := LT _ _ _ _ h2 _ l2
      have LV := Lib.hid (lives_any w)
      clear h1 h2 h3 h4 l1 l2 LT
      go_enter Tryz.func7, Tryz.ntmps7
      go_wp2_with fail
      refine LV.out.mono ?_
      rintro e w1 ⟨rfl, hb⟩
      have H1 := Lib.hid hb
      clear hb LV
      go_wp2_with fail
      refine (LT1.out w1 H1.out).mono ?_
      rintro e w2 ⟨rfl, hb⟩
      have H2 := Lib.hid hb
      clear hb LT1
      go_wp2_with fail
      refine (LT2.out w2 H2.out).mono ?_
      rintro e w3 ⟨rfl, hb⟩
      have H3 := Lib.hid hb
      clear hb LT2
      go_wp2
      go_ret
      exact ⟨rfl, H3.out⟩
    | true =>
      cases l3 : lightB 50 3000 c with
      | false =>
        have LT1 := LT _ _ _ _ h1 _ l1
        have LT2 := LT _ _ _ _ h2 _ l2
        have LT3 := LT _ _ _ _ h3 _ l3
        have LV := Lib.hid (lives_any w)
        clear h1 h2 h3 h4 l1 l2 l3 LT
        go_enter Tryz.func7, Tryz.ntmps7
        go_wp2_with fail
        refine LV.out.mono ?_
        rintro e w1 ⟨rfl, hb⟩
        have H1 := Lib.hid hb
        clear hb LV
        go_wp2_with fail
        refine (LT1.out w1 H1.out).mono ?_
        rintro e w2 ⟨rfl, hb⟩
        have H2 := Lib.hid hb
        clear hb LT1
        go_wp2_with fail
        refine (LT2.out w2 H2.out).mono ?_
        rintro e w3 ⟨rfl, hb⟩
        have H3 := Lib.hid hb
        clear hb LT2
        go_wp2_with fail
        refine (LT3.out w3 H3.out).mono ?_
        rintro e w4 ⟨rfl, hb⟩
        have H4 := Lib.hid hb
        clear hb LT3
        go_wp2
        go_ret
        exact ⟨rfl, H4.out⟩
      | true =>
        by_cases hp : n4 ≤ 100
        · obtain ⟨parts, hN⟩ := h4 (by omega)
          exact walKeeps_in w A1 A2 A3 A4 n1 c1 n2 c2 n3 c3 n4 c4 a b c fuse keep parts h1 h2 h3 hN hp hfuse hkeep l1 l2 l3
        · have LT1 := LT _ _ _ _ h1 _ l1
          have LT2 := LT _ _ _ _ h2 _ l2
          have LT3 := LT _ _ _ _ h3 _ l3
          have LV := Lib.hid (lives_any w)
          have i1 : (n4 : Int) ≤ 9223372036854775807 := by unfold maxLen at hn4; omega
          have i2 : (100 : Int) < n4 := by omega
          clear h1 h2 h3 h4 l1 l2 l3 LT hn4 hp
          go_enter Tryz.func7, Tryz.ntmps7
          go_wp2_with fail
          refine LV.out.mono ?_
          rintro e w1 ⟨rfl, hb⟩
          have H1 := Lib.hid hb
          clear hb LV
          go_wp2_with fail
          refine (LT1.out w1 H1.out).mono ?_
          rintro e w2 ⟨rfl, hb⟩
          have H2 := Lib.hid hb
          clear hb LT1
          go_wp2_with fail
          refine (LT2.out w2 H2.out).mono ?_
          rintro e w3 ⟨rfl, hb⟩
          have H3 := Lib.hid hb
          clear hb LT2
          go_wp2_with fail
          refine (LT3.out w3 H3.out).mono ?_
          rintro e w4 ⟨rfl, hb⟩
          have H4 := Lib.hid hb
          clear hb LT3
          go_wp2
          go_ret
          exact ⟨rfl, H4.out⟩
theorem row_max {w : World} {a : Option Addr} {len cap : Nat} {zs : List Int}
    (h : (a = none ∧ len = 0 ∧ cap = 0 ∧ zs = []) ∨ ∃ x, a = some x ∧ len ≤ cap ∧ cap ≤ maxLen ∧ zs.length = cap ∧ (∀ i, i < zs.length → w.cell? (x.add i) = some (.int .i64 (zs.getD i 0))) ∧ ∀ n ∈ zs, (Lit.int .i64 n).wf = true) : len ≤ maxLen := by
  rcases h with ⟨_, rfl, rfl, _⟩ | ⟨x, _, h, h2, _⟩
  · exact Nat.zero_le _
  · omega
end Go.Proofs.YtiikjdjpodmpcaaGreat

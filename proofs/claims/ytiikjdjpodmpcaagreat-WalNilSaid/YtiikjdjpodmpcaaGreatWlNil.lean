/- The walk of the law WalNil. -/
import Derived.Test.YtiikjdjpodmpcaaGreatWlStr
namespace Go.Proofs.YtiikjdjpodmpcaaGreat
open Go.RowKit Go.Maps
set_option linter.unusedVariables false

set_option maxRecDepth 100000 in
set_option maxHeartbeats 2000000 in
theorem walNil_any (w : World) (s : ByteArray) (hs : s.size ≤ maxLen) (A : Option Addr) (n c : Nat) (ps : List Str) (h : SArg w A n c ps) :
    Calls Tryz.prog 6 #[.string s, .slice A n c] w fun e w' => e = .returned (.bool true) ∧ Below w.heap.size w w' := by
  have hcap := h.cap
  have hle := h.le
  unfold maxLen at hcap hs
  have i1 : (n : Int) ≤ 9223372036854775807 := by omega
  have i2 : (s.size : Int) ≤ 9223372036854775807 := by omega
  have H := Lib.hid h
  have LV := Lib.hid (lives_any w)
  have LT : Hid (∀ W, Nx w W → Calls Tryz.prog 16 #[.slice A n c, .int .i64 50, .int .i64 3000] W fun e w' => e = .returned (.bool (lightB 50 3000 ps)) ∧ Nx w w') := fun W hW => (light_any W A n c ps (h.nx hW) 50 3000 (by decide) (by decide)).mono fun e w' ⟨e1, m, e2⟩ => ⟨e1, by rw [e2]; exact hW.drewN m⟩
  have HN : Hid (lightB 50 3000 ps = true → n ≤ 50) := fun hb => by
    unfold lightB at hb
    simp only [Bool.and_eq_true, decide_eq_true_eq] at hb
    have := h.len
    omega
  clear h hcap hle hs
  generalize lightB 50 3000 ps = B at *
  by_cases c1 : 3000 < s.size
  · go_enter Tryz.func6, Tryz.ntmps6
    go_wp2_with fail
    refine LV.out.mono ?_
    rintro e w1 ⟨rfl, hb⟩
    have H1 := Lib.hid hb
    clear hb LV
    go_wp2
    go_ret
    exact ⟨rfl, H1.out⟩
  · cases B with
    | false =>
      go_enter Tryz.func6, Tryz.ntmps6
      go_wp2_with fail
      refine LV.out.mono ?_
      rintro e w1 ⟨rfl, hb⟩
      have H1 := Lib.hid hb
      clear hb LV
      go_wp2_with fail
      refine (LT.out w1 H1.out).mono ?_
      rintro e w2 ⟨rfl, hb⟩
      have H2 := Lib.hid hb
      clear hb LT
      go_wp2
      go_ret
      exact ⟨rfl, H2.out⟩
    | true =>
      have hn := HN.out rfl
      go_enter Tryz.func6, Tryz.ntmps6
      go_wp2_with fail
      refine LV.out.mono ?_
      rintro e w1 ⟨rfl, hb⟩
      have H1 := Lib.hid hb
      clear hb LV
      go_wp2_with fail
      refine (LT.out w1 H1.out).mono ?_
      rintro e w2 ⟨rfl, hb⟩
      have H2 := Lib.hid hb
      clear hb LT
      go_wp2_with fail
      refine (lappend_nil w2 s).mono ?_
      rintro e w3 ⟨rfl, hb⟩
      have H3 := Lib.hid (H2.out.trans hb)
      clear hb
      go_wp2_with fail
      refine (lsync_nil w3).mono ?_
      rintro e w4 ⟨rfl, hb⟩
      have H4 := Lib.hid (H3.out.trans hb)
      clear hb
      go_wp2_with (at_builtin; refine BigFrame.wpList_want rfl fun K hK => wp_strs_copy (.tmp 27) (.tmp 28) rfl rfl A n c ps rfl (H.out.nx H4.out) (by omega) ?_; intro A5 c5 w5 hr hn5; have H5 := Lib.hid (H4.out.trans hn5); clear hr hn5; refine hK _ _ ?_; clear hK K)
      refine (laside_nil w5 A5 n c5).mono ?_
      rintro e w6 ⟨rfl, hb⟩
      have H6 := Lib.hid (H5.out.trans hb)
      clear hb
      go_wp2_with fail
      refine (lsize_nil w6).mono ?_
      rintro e w7 ⟨rfl, rfl⟩
      go_wp2_with fail
      refine (lcount_nil w6).mono ?_
      rintro e w8 ⟨rfl, rfl⟩
      go_wp2
      go_ret
      exact ⟨rfl, H6.out⟩
end Go.Proofs.YtiikjdjpodmpcaaGreat

/- The walk of the law WireNames. -/
import Derived.Test.YtpgjnmakpghamaaRdr3
namespace Go.Proofs.Ytpgjnmakpghamaa
open Go.RowKit
set_option linter.unusedVariables false

theorem enc_127 : enc 127 = [127] := by decide +kernel
theorem enc_128 : enc 128 = [129, 0] := by decide +kernel
theorem num_128_1 : num [128, 1] = (0, 0, 4) := by decide +kernel
theorem chk_nil : chk [] = 1 := by decide +kernel

set_option maxHeartbeats 1600000 in
theorem law_names (w : World) : Calls Try.prog 3 #[] w (LivesPost w) := by
  go_enter Try.func3, Try.ntmps3
  go_wp2_with fail
  have hl := Byt.lit w #[.int .u8 128, .int .u8 1] [128, 1] (by simp [bvs]) (by decide)
  refine (new_any _ (w.heap.size + 1) 2 2 _ [128, 1] hl (by simp) (by simp) (by omega)).mono ?_
  rintro e w1 ⟨g, A1, n1, c1, rfl, hr1, hb1⟩
  have hb1' : Below w.heap.size w w1 := Below.step ((Below.refl _ _).alloc (Nat.le_refl _) _) hb1 (by simp)
  clear hl
  go_wp2_with fail
  refine (rd_number0 w1 _ g n1 c1 0 A1 [128, 1] hr1).mono ?_
  rintro e w2 ⟨rfl, hr2, hg2⟩
  rw [List.drop_zero, num_128_1] at *
  have hb2 : Below w.heap.size w w2 := hb1'.grown hg2 hb1'.size fun k hk => by injection hk with hk; subst hk; have := hr1.hB; simp at this; omega
  have hsz2 := hb2.size
  clear hr1 hb1 hg2
  simp only [Nat.add_zero] at hr2
  go_wp2_with fail
  refine (lives_any w2).mono ?_
  rintro e w3 ⟨rfl, hb3⟩
  have hsz3 := hb3.size
  go_wp2_with fail
  refine (number_any w3 w3.heap.size none 0 0 [] 127 (Byt.none_ _ _) (Nat.le_refl _) (by omega) (by omega)).mono ?_
  rintro e w4 ⟨A4, n4, c4, rfl, hown4, hb4⟩
  have hsz4 := hb4.size
  rw [enc_127] at hown4
  have hs4 := run_string_of_bytes hown4.byt
  go_wp2_with fail
  refine (number_any w4 w4.heap.size none 0 0 [] 128 (Byt.none_ _ _) (Nat.le_refl _) (by omega) (by omega)).mono ?_
  rintro e w5 ⟨A5, n5, c5, rfl, hown5, hb5⟩
  have hsz5 := hb5.size
  rw [enc_128] at hown5
  have hs5 := run_string_of_bytes hown5.byt
  clear hs4
  go_wp2_with fail
  refine (sum_at w5 w5.heap.size none 0 0 [] (Byt.none_ _ _) (Nat.le_refl _) (by omega)).mono ?_
  rintro e w6 ⟨rfl, hb6⟩
  rw [chk_nil]
  have hsz6 := hb6.size
  clear hs5
  have hr6 := (((hr2.below hb3).below (hb4.mono (Nat.le_refl _))).below hb5).below hb6
  go_wp2_with fail
  refine (rd_err w6 _ g n1 c1 0 A1 [128, 1] _ hr6).mono ?_
  rintro e w7 ⟨rfl, rfl⟩
  clear hr6 hr2 hown4 hown5
  go_wp2
  go_ret
  exact ⟨rfl, Below.step (Below.step (Below.step (Below.step hb2 hb3 hsz2) hb4 (by omega)) hb5 (by omega)) hb6 (by omega)⟩
end Go.Proofs.Ytpgjnmakpghamaa

/- The walk of the law WalNames. -/
import Derived.Test.YtiikjdjpodmpcaaGreatWlFrame
import Derived.Test.YtiikjdjpodmpcaaGreatWlSc
namespace Go.Proofs.YtiikjdjpodmpcaaGreat
open Go.RowKit Go.Maps
set_option linter.unusedVariables false

theorem scan_n1 : scan ([] ++ [0, 0, 0, 1, 97, 0, 104, 0, 99] ++ [0, 0]) = ([[97]], 9, 0) := by decide +kernel
theorem scan_n2 : scan [0, 0, 0, 1, 96, 0, 104, 0, 99] = ([], 0, 4) := by decide +kernel
theorem xor_n : bits BinOp.xor IntKind.u8 97 1 = 96 := by decide +kernel
set_option maxRecDepth 100000 in
set_option maxHeartbeats 4000000 in
theorem walNames_any (w : World) :
    Calls Tryz.prog 3 #[] w fun e w' => e = .returned (.bool true) ∧ Below w.heap.size w w' := by
  have LF := Lib.hid (lframe_a w)
  go_enter Tryz.func3, Tryz.ntmps3
  go_wp2_with fail
  refine LF.out.mono ?_
  rintro e w1 ⟨g, c, rfl, ho, hn⟩
  have HO1 := Lib.hid ho
  have HN1 := Lib.hid hn
  clear ho hn LF
  have HL : Hid (Own (w1.alloc (.cells #[] 5)) w1.heap.size (some ⟨w1.heap.size, 0, none⟩) 0 0 []) := Own.lit w1 #[] [] rfl (by simp [maxLen])
  have HB : Hid (Byt (w1.alloc (.cells #[] 5)) w1.heap.size (some ⟨g, 0, none⟩) 9 c [0, 0, 0, 1, 97, 0, 104, 0, 99]) := HO1.out.byt.alloc (Nat.le_refl _) _
  have N1 : Hid (Nx w1 (w1.alloc (.cells #[] 5))) := (Below.refl _ w1).alloc (Nat.le_refl _) _
  have BL : Hid (∀ W : World, Byt (W.alloc (.cells #[.int .u8 0, .int .u8 0] 5)) (W.heap.size + 1) (some ⟨W.heap.size, 0, none⟩) 2 2 [0, 0]) := fun W => Byt.lit W #[.int .u8 0, .int .u8 0] [0, 0] rfl (by decide)
  have SCN : Hid (∀ W B A c, B ≤ W.heap.size → Own W B A 11 c ([] ++ [0, 0, 0, 1, 97, 0, 104, 0, 99] ++ [0, 0]) → Calls Tryz.prog 10 #[.slice A 11 c] W fun e w' => ∃ A' c', e = .returned (.tuple #[.slice A' 1 c', .int .i64 9, .int .i64 0]) ∧ StrRow w' W.heap.size A' 1 c' [[97]] ∧ Nx W w') := fun W B A c hB ho => by
    have := scan_any W W.heap.size A 11 c _ ho.byt (Nat.le_refl _) (RowForm.of (own_form2 ho)) (by decide)
    rw [scan_n1] at this
    exact this.mono fun e w' ⟨A', m, c', e1, e2, e3, e4⟩ => by
      have hm : m = 1 := by have := (e2.strs (by omega)).len; simpa using this.symm
      subst hm
      exact ⟨A', c', e1, e2, e4⟩
  have SCM : Hid (∀ W B c, B ≤ W.heap.size → Own W B (some ⟨g, 0, none⟩) 9 c [0, 0, 0, 1, 96, 0, 104, 0, 99] → Calls Tryz.prog 10 #[.slice (some ⟨g, 0, none⟩) 9 c] W fun e w' => ∃ A' c', e = .returned (.tuple #[.slice A' 0 c', .int .i64 0, .int .i64 4]) ∧ Nx W w') := fun W B c hB ho => by
    have := scan_any W W.heap.size (some ⟨g, 0, none⟩) 9 c _ ho.byt (Nat.le_refl _) (.inr (.inr ⟨g, 0, rfl⟩)) (by decide)
    rw [scan_n2] at this
    exact this.mono fun e w' ⟨A', m, c', e1, e2, e3, e4⟩ => by
      have hm : m = 0 := by have := (e2.strs (by omega)).len; simpa using this.symm
      subst hm
      exact ⟨A', c', e1, e4⟩
  go_wp2_with (first
    | (at_builtin; refine BigFrame.wpList_want rfl fun K hK => wp_bytes_append (.tmp 13) (.tmp 14) rfl w1.heap.size (some ⟨w1.heap.size, 0, none⟩) 0 0 [] rfl HL.out w1.heap.size (some ⟨g, 0, none⟩) 9 c [0, 0, 0, 1, 97, 0, 104, 0, 99] rfl HB.out (by decide) (by simp) ?_; intro A2 c2 w2 ho2 hg2; have HO2 := Lib.hid ho2; have HN2 : Hid (Nx w1 w2) := ((Chd.of_below (M := fun j => j = w1.heap.size) N1.out).trans (Chd.of_grown hg2)).below (Nat.le_refl _) (fun j hj e => by omega); clear ho2 hg2; refine hK _ _ ?_; clear hK K)
    | (at_builtin; refine BigFrame.wpList_want rfl fun K hK => wp_bytes_append (.tmp 15) (.tmp 16) rfl w1.heap.size A2 9 c2 ([] ++ [0, 0, 0, 1, 97, 0, 104, 0, 99]) rfl (HO2.out.alloc _) (w2.heap.size + 1) (some ⟨w2.heap.size, 0, none⟩) 2 2 [0, 0] rfl (BL.out w2) (by decide) (by have := HN2.out.size; simp; omega) ?_; intro A3 c3 w3 ho3 hg3; have HO3 := Lib.hid ho3; have HN3 : Hid (Nx w1 w3) := (HN2.out.trans ((Below.refl _ w2).alloc (Nat.le_refl _) _)).grown hg3 (by have := HN2.out.size; simp; omega) fun k hk => (World.ownsRow.lt HO2.out k hk).1; clear ho3 hg3; refine hK _ _ ?_; clear hK K))
  refine (SCN.out w3 w1.heap.size A3 c3 HN3.out.size HO3.out).mono ?_
  rintro e w4 ⟨A4, c4, rfl, hs4, hn4⟩
  have hg := World.ownsRow.lt HO1.out g rfl
  have o4 := (HO1.out.below HN3.out).below hn4
  have k4 : w4.cell? ⟨g, 4, none⟩ = some (.int .u8 97) := (World.ownsRow.cellAt o4 4 (by decide)).trans rfl
  have fz : w4.frozen? ⟨g, 4, none⟩ = false := World.ownsRow.frozenAt o4 4
  have o5 : Own (w4.setCell ⟨g, 4, none⟩ (.int .u8 96)) w.heap.size (some ⟨g, 0, none⟩) 9 c [0, 0, 0, 1, 96, 0, 104, 0, 99] := (World.ownsRow.stored o4 4 (.int .u8 96)).1
  have s5 : StrRow (w4.setCell ⟨g, 4, none⟩ (.int .u8 96)) w3.heap.size A4 1 c4 [[97]] := ownsRow_setCell_below hs4 (by have := HN3.out.size; show g < _; omega) _
  have n5 : Nx w (w4.setCell ⟨g, 4, none⟩ (.int .u8 96)) := ((Chd.of_below (M := fun _ => False) (HN1.out.trans (HN3.out.trans hn4))).then_ (Chd.set w4 g 4 _) (fun x hx e => by rw [e] at hx; omega)).below (Nat.le_refl _) (fun _ _ e => e)
  have O5 := Lib.hid o5
  have S5 := Lib.hid s5
  have N5 := Lib.hid n5
  obtain ⟨w5, hw5⟩ : ∃ w5, w4.setCell ⟨g, 4, none⟩ (.int .u8 96) = w5 := ⟨_, rfl⟩
  have HW5 := Lib.hid hw5
  rw [hw5] at O5 S5 N5
  clear hg o4 o5 s5 n5 hs4 hn4 hw5 HL HB N1 BL SCN HO3 HN3 HO2 HN2 HO1 HN1
  go_wp2_with fail
  rw [xor_n, HW5.out]
  refine (SCM.out w5 w.heap.size c N5.out.size O5.out).mono ?_
  rintro e w6 ⟨A6, c6, rfl, hn6⟩
  have N6 := Lib.hid (N5.out.trans hn6)
  have S6 := Lib.hid (S5.out.nx hn6)
  have LN := Lib.hid (lopen_nil w6 [97])
  clear hn6 SCM O5 S5 N5 HW5 k4 fz
  go_wp2_with fail
  refine LN.out.mono ?_
  rintro e w7 ⟨rfl, hn7⟩
  have N7 := Lib.hid (N6.out.trans hn7)
  have S7 := Lib.hid (S6.out.nx hn7)
  have LV := Lib.hid (lives_any w7)
  clear hn7 LN S6 N6
  go_wp2_with fail
  refine LV.out.mono ?_
  rintro e w8 ⟨rfl, hn8⟩
  have N8 := Lib.hid (N7.out.trans hn8)
  have nx1 : Nx w8 (w8.alloc (.cells #[.string ⟨#[97]⟩] 9)) := (Below.refl _ w8).alloc (Nat.le_refl _) _
  have TX := texts_rd (w8.alloc (.cells #[.string ⟨#[97]⟩] 9)) A4 (some ⟨w8.heap.size, 0, none⟩) 1 c4 1 1 [[97]] [[97]] (((S7.out.nx hn8).nx nx1).strs (by decide)).rd (strs_1 w8 [97]).rd
  rw [decide_eq_true rfl] at TX
  have T := Lib.hid TX
  have N9 := Lib.hid (N8.out.trans nx1)
  clear hn8 LV S7 N7 TX nx1
  go_wp2_with fail
  refine T.out.mono ?_
  rintro e w9 ⟨rfl, m, hm⟩
  have N10 : Hid (Nx w w9) := by rw [hm]; exact N9.out.drewN m
  clear hm T N9
  go_wp2
  go_ret
  exact ⟨rfl, N10.out⟩
end Go.Proofs.YtiikjdjpodmpcaaGreat

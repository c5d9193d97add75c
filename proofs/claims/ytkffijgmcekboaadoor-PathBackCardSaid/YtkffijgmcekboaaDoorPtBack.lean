/- The walk of the law PathBack. -/
import Derived.Test.YtkffijgmcekboaaDoorPtRest
namespace Go.Proofs.YtkffijgmcekboaaDoor
open Go.RowKit
open Go.Lib (decDigits)
set_option linter.unusedVariables false

theorem temp_no_path (s : List UInt8) : isPath (tempL ++ s) = false := by
  have e : tempL ++ s = [46, 116, 109, 112] ++ 47 :: s := rfl
  unfold isPath
  rw [e, names_append, List.all_append, show (names [46, 116, 109, 112]).all isName = false from by decide]
  simp
theorem tempR_path {s : List UInt8} (h : isPath s = true) : tempR s = (tempL ++ s, 0) := by unfold tempR; rw [if_pos h]
theorem tempR_not {s : List UInt8} (h : isPath s = false) : tempR s = ([], chk s) := by unfold tempR; rw [if_neg (by rw [h]; decide)]
theorem tempedR_path {s : List UInt8} (h : isPath s = true) : tempedR (tempL ++ s) = (s, true) := by
  unfold tempedR
  have h1 : tempL.isPrefixOf (tempL ++ s) = true := List.isPrefixOf_iff_prefix.2 ⟨s, rfl⟩
  have h2 : (tempL ++ s).drop 5 = s := rfl
  rw [h1, h2, h]
  rfl

set_option maxRecDepth 100000 in
set_option maxHeartbeats 4000000 in
theorem back_in (w : World) (s t : List UInt8) (d n oth : Int) (hs : s.length ≤ maxLen) (ht : t.length ≤ maxLen) (hT : Tab w) :
    Calls Tryd.prog 5 #[.string (S s), .string (S t), .int .i64 d, .int .i64 n, .int .i64 oth] w fun e w' => e = .returned (.bool true) ∧ Nx w w' := by
  have LV := Lib.hid (lives_any w hT)
  have T := Lib.hid hT
  have zs := S_size s
  have zt := S_size t
  have ts := S_toList s
  have tt := S_toList t
  clear hT
  unfold maxLen at hs ht
  by_cases hlong : 300 < s.length ∨ (¬ 300 < s.length ∧ 300 < t.length)
  · rcases hlong with h | ⟨h, h1⟩
    all_goals
      have i1 : decide ((300 : Int) < (s.length : Int)) = decide (300 < s.length) := by congr 1; simp; omega
      have i2 : decide ((300 : Int) < (t.length : Int)) = decide (300 < t.length) := by congr 1; simp; omega
      generalize S s = ss at *
      generalize S t = st at *
      clear ts tt
      go_enter Tryd.func5, Tryd.ntmps5
      go_wp2_with fail
      refine LV.out.mono ?_
      rintro e w0 ⟨rfl, hb⟩
      have H0 := Lib.hid hb
      clear hb LV
      go_wp2
      all_goals go_ret
      all_goals exact ⟨rfl, H0.out⟩
  have l1 : s.length ≤ 300 := by omega
  have l2 : t.length ≤ 300 := by omega
  clear hlong hs ht
  have i1 : ¬ (300 : Int) < (s.length : Int) := by omega
  have i2 : ¬ (300 : Int) < (t.length : Int) := by omega
  have CKs := Lib.hid (fun W => check_any W s)
  have TM := fun W => temp_any W s
  cases hsp : isPath s with
  | false =>
    have hb0 := chk_bne hsp
    rw [tempR_not hsp] at TM
    have TM := Lib.hid TM
    clear hsp
    generalize chk s = v at *
    generalize S s = ss at *
    generalize S t = st at *
    clear ts tt
    go_enter Tryd.func5, Tryd.ntmps5
    go_wp2_with fail
    refine LV.out.mono ?_
    rintro e w0 ⟨rfl, hb⟩
    have H0 := Lib.hid hb
    clear hb LV
    go_wp2_with fail
    refine (CKs.out w0).mono ?_
    rintro e w1 ⟨rfl, hb⟩
    have H1 := Lib.hid (Nx.trans H0.out hb)
    clear hb H0
    go_wp2_with fail
    refine (TM.out w1).mono ?_
    rintro e w2 ⟨rfl, hb⟩
    have H2 := Lib.hid (Nx.trans H1.out hb)
    clear hb H1
    go_wp2_with fail
    refine (CKs.out w2).mono ?_
    rintro e w3 ⟨rfl, hb⟩
    have H3 := Lib.hid (Nx.trans H2.out hb)
    clear hb H2
    go_wp2
    all_goals go_ret
    all_goals exact ⟨rfl, H3.out⟩
  | true =>
    have X := rest_path s hsp
    have X1 := Lib.hid X.1
    have X2 := Lib.hid X.2.1
    have CK0 := Lib.hid X.2.2.2
    rw [tempR_path hsp] at TM
    have TM := Lib.hid TM
    have TD := fun W => temped_any W (tempL ++ s)
    rw [tempedR_path hsp] at TD
    have TD := Lib.hid TD
    have CKp := Lib.hid (fun W => check_any W (tempL ++ s))
    have hb1 := chk_bne (temp_no_path s)
    have hb2 : (chk (tempL ++ s) == 0) = false := by simpa [bne] using hb1
    have P := path_parts hsp
    have hx : S (stem (base s)) ++ S (ending (base s)) = S (base s) := by rw [S_append, stem_ending]
    have y1 : (S (stem (base s))).size ≤ 300 := by rw [S_size]; have := stem_len (base s); have := base_len s; omega
    have y2 : (S (ending (base s))).size ≤ 300 := by rw [S_size]; have := ending_len (base s); have := base_len s; omega
    have y3 : (S (folder s)).size ≤ 300 := by rw [S_size]; have := folder_len s; omega
    have y4 : (S (base s)).size ≤ 300 := by rw [S_size]; have := base_len s; omega
    have tf := S_toList (folder s)
    have hfold : (folder s = [] ∧ S (base s) = S s) ∨ ((folder s == []) = false ∧ S (folder s) ++ ⟨#[47]⟩ ++ S (base s) = S s) := by
      by_cases hf : folder s = []
      · exact .inl ⟨hf, by rw [base_whole hsp hf]⟩
      · right
        obtain ⟨h1, h2, h3⟩ := within_folder hsp hf
        refine ⟨by simp [hf], ?_⟩
        have : (⟨#[47]⟩ : ByteArray) = S [47] := rfl
        rw [this, S_append, S_append, List.append_assoc]
        exact congrArg S h3
    have CPY := fun W h => copy_any W s d n h
    have CPT := fun W h => copy_any W t oth n h
    have hcopy : (∃ e, copyR s d n = ([], e) ∧ (e = 2 ∨ e = 3)) ∨ (∃ c, copyR s d n = (c, 0) ∧ (∀ W, Calls Tryd.prog 7 #[.string (S c)] W fun e w' => e = .returned (.tuple #[.string (S s), .int .i64 d, .int .i64 n, .bool true]) ∧ Nx W w') ∧ (∀ W, Calls Tryd.prog 11 #[.string (S c)] W fun e w' => e = .returned (.int .i64 0) ∧ Nx W w') ∧
        ((∃ e, copyR t oth n = ([], e) ∧ (e = 2 ∨ e = 3)) ∨ (∃ c', copyR t oth n = (c', 0) ∧ (c' == c) = false) ∨ (copyR t oth n = (c, 0) ∧ t = s ∧ oth = d))) := by
      rcases copyR_cases s d n with h | ⟨c, h1, h2⟩
      · exact .inl h
      · right
        have C := copy_of h2
        refine ⟨c, h1, fun W => copied_any W c s d n true (.inl ⟨h2, rfl⟩), fun W => ?_, ?_⟩
        · have := check_any W c
          rw [chk_zero.2 C.cpath] at this
          exact this
        · rcases copyR_cases t oth n with h | ⟨c', h3, h4⟩
          · exact .inl h
          · by_cases hc : c' = c
            · subst hc
              obtain ⟨e1, e2, _⟩ := isCopy_unique h4 h2
              exact .inr (.inr ⟨h3, e1, e2⟩)
            · exact .inr (.inl ⟨c', h3, by simp [hc]⟩)
    clear X P hsp CKs hb1
    generalize folder s = lf at *
    generalize S (ending (base s)) = sen at *
    generalize S (stem (base s)) = sst at *
    generalize S (base s) = sb at *
    generalize chk (tempL ++ s) = vp at *
    simp only at TM TD
    generalize S (tempL ++ s) = sp at *
    rcases hfold with ⟨f1, f2⟩ | ⟨f1, f2⟩
    · subst f1
      subst f2
      generalize S s = ss at *
      rcases hcopy with ⟨e, c1, c2⟩ | ⟨c, c1, c2, c3, c4⟩
      · simp only [c1] at CPY
        rw [S_nil] at CPY
        have CPY := Lib.hid CPY
        have c3 : (e != 0) = true := by rcases c2 with rfl | rfl <;> rfl
        have c4 : (e != 6) = true := by rcases c2 with rfl | rfl <;> rfl
        clear c1 c2 CPT
        go_enter Tryd.func5, Tryd.ntmps5
        go_wp2_with fail
        refine LV.out.mono ?_
        rintro e w0 ⟨rfl, hb⟩
        have H0 := Lib.hid hb
        clear hb LV
        go_wp2_with fail
        refine (CK0.out w0).mono ?_
        rintro e w1 ⟨rfl, hb⟩
        have H1 := Lib.hid (Nx.trans H0.out hb)
        clear hb H0
        go_wp2_with fail
        refine (X1.out w1).mono ?_
        rintro e w2 ⟨rfl, hb⟩
        have H2 := Lib.hid (Nx.trans H1.out hb)
        clear hb H1
        go_wp2_with fail
        refine (X2.out w2).mono ?_
        rintro e w3 ⟨rfl, hb⟩
        have H3 := Lib.hid (Nx.trans H2.out hb)
        clear hb H2
        go_wp2_with fail
        refine (TM.out w3).mono ?_
        rintro e w4 ⟨rfl, hb⟩
        have H4 := Lib.hid (Nx.trans H3.out hb)
        clear hb H3
        go_wp2_with fail
        refine (TD.out w4).mono ?_
        rintro e w5 ⟨rfl, hb⟩
        have H5 := Lib.hid (Nx.trans H4.out hb)
        clear hb H4
        go_wp2_with fail
        refine (CKp.out w5).mono ?_
        rintro e w6 ⟨rfl, hb⟩
        have H6 := Lib.hid (Nx.trans H5.out hb)
        clear hb H5
        go_wp2_with fail
        refine (CPY.out w6 (T.out.next H6.out)).mono ?_
        rintro e w7 ⟨rfl, hb⟩
        have H7 := Lib.hid (Nx.trans H6.out hb)
        clear hb H6
        go_wp2
        all_goals go_ret
        all_goals exact ⟨rfl, H7.out⟩
      · simp only [c1] at CPY
        have CPY := Lib.hid CPY
        have tc := S_toList c
        have CP := Lib.hid c2
        have CKc := Lib.hid c3
        clear c1 c2 c3
        rcases c4 with ⟨e, d1, d2⟩ | ⟨c9, d1, d2⟩ | ⟨d1, d2, d3⟩
        · simp only [d1] at CPT
          rw [S_nil] at CPT
          have CPT := Lib.hid CPT
          have d3 : (e != 0) = true := by rcases d2 with rfl | rfl <;> rfl
          clear d1 d2
          generalize S c = sc at *
          go_enter Tryd.func5, Tryd.ntmps5
          go_wp2_with fail
          refine LV.out.mono ?_
          rintro e w0 ⟨rfl, hb⟩
          have H0 := Lib.hid hb
          clear hb LV
          go_wp2_with fail
          refine (CK0.out w0).mono ?_
          rintro e w1 ⟨rfl, hb⟩
          have H1 := Lib.hid (Nx.trans H0.out hb)
          clear hb H0
          go_wp2_with fail
          refine (X1.out w1).mono ?_
          rintro e w2 ⟨rfl, hb⟩
          have H2 := Lib.hid (Nx.trans H1.out hb)
          clear hb H1
          go_wp2_with fail
          refine (X2.out w2).mono ?_
          rintro e w3 ⟨rfl, hb⟩
          have H3 := Lib.hid (Nx.trans H2.out hb)
          clear hb H2
          go_wp2_with fail
          refine (TM.out w3).mono ?_
          rintro e w4 ⟨rfl, hb⟩
          have H4 := Lib.hid (Nx.trans H3.out hb)
          clear hb H3
          go_wp2_with fail
          refine (TD.out w4).mono ?_
          rintro e w5 ⟨rfl, hb⟩
          have H5 := Lib.hid (Nx.trans H4.out hb)
          clear hb H4
          go_wp2_with fail
          refine (CKp.out w5).mono ?_
          rintro e w6 ⟨rfl, hb⟩
          have H6 := Lib.hid (Nx.trans H5.out hb)
          clear hb H5
          go_wp2_with fail
          refine (CPY.out w6 (T.out.next H6.out)).mono ?_
          rintro e w7 ⟨rfl, hb⟩
          have H7 := Lib.hid (Nx.trans H6.out hb)
          clear hb H6
          go_wp2_with fail
          refine (CP.out w7).mono ?_
          rintro e w8 ⟨rfl, hb⟩
          have H8 := Lib.hid (Nx.trans H7.out hb)
          clear hb H7
          go_wp2_with fail
          refine (CPT.out w8 (T.out.next H8.out)).mono ?_
          rintro e w9 ⟨rfl, hb⟩
          have H9 := Lib.hid (Nx.trans H8.out hb)
          clear hb H8
          go_wp2_with fail
          refine (CKc.out w9).mono ?_
          rintro e w10 ⟨rfl, hb⟩
          have H10 := Lib.hid (Nx.trans H9.out hb)
          clear hb H9
          go_wp2
          all_goals go_ret
          all_goals exact ⟨rfl, H10.out⟩
        · simp only [d1] at CPT
          have CPT := Lib.hid CPT
          have tc9 := S_toList c9
          have d3 : (c9 != c) = true := by rw [bne, d2]; rfl
          clear d1
          generalize S c = sc at *
          generalize S c9 = sc9 at *
          go_enter Tryd.func5, Tryd.ntmps5
          go_wp2_with fail
          refine LV.out.mono ?_
          rintro e w0 ⟨rfl, hb⟩
          have H0 := Lib.hid hb
          clear hb LV
          go_wp2_with fail
          refine (CK0.out w0).mono ?_
          rintro e w1 ⟨rfl, hb⟩
          have H1 := Lib.hid (Nx.trans H0.out hb)
          clear hb H0
          go_wp2_with fail
          refine (X1.out w1).mono ?_
          rintro e w2 ⟨rfl, hb⟩
          have H2 := Lib.hid (Nx.trans H1.out hb)
          clear hb H1
          go_wp2_with fail
          refine (X2.out w2).mono ?_
          rintro e w3 ⟨rfl, hb⟩
          have H3 := Lib.hid (Nx.trans H2.out hb)
          clear hb H2
          go_wp2_with fail
          refine (TM.out w3).mono ?_
          rintro e w4 ⟨rfl, hb⟩
          have H4 := Lib.hid (Nx.trans H3.out hb)
          clear hb H3
          go_wp2_with fail
          refine (TD.out w4).mono ?_
          rintro e w5 ⟨rfl, hb⟩
          have H5 := Lib.hid (Nx.trans H4.out hb)
          clear hb H4
          go_wp2_with fail
          refine (CKp.out w5).mono ?_
          rintro e w6 ⟨rfl, hb⟩
          have H6 := Lib.hid (Nx.trans H5.out hb)
          clear hb H5
          go_wp2_with fail
          refine (CPY.out w6 (T.out.next H6.out)).mono ?_
          rintro e w7 ⟨rfl, hb⟩
          have H7 := Lib.hid (Nx.trans H6.out hb)
          clear hb H6
          go_wp2_with fail
          refine (CP.out w7).mono ?_
          rintro e w8 ⟨rfl, hb⟩
          have H8 := Lib.hid (Nx.trans H7.out hb)
          clear hb H7
          go_wp2_with fail
          refine (CPT.out w8 (T.out.next H8.out)).mono ?_
          rintro e w9 ⟨rfl, hb⟩
          have H9 := Lib.hid (Nx.trans H8.out hb)
          clear hb H8
          go_wp2_with fail
          refine (CKc.out w9).mono ?_
          rintro e w10 ⟨rfl, hb⟩
          have H10 := Lib.hid (Nx.trans H9.out hb)
          clear hb H9
          go_wp2
          all_goals go_ret
          all_goals exact ⟨rfl, H10.out⟩
        · simp only [d1] at CPT
          have CPT := Lib.hid CPT
          have d4 : (t == s) = true := by rw [d2]; exact beq_self_eq_true s
          subst d3
          clear d1 d2
          generalize S c = sc at *
          go_enter Tryd.func5, Tryd.ntmps5
          go_wp2_with fail
          refine LV.out.mono ?_
          rintro e w0 ⟨rfl, hb⟩
          have H0 := Lib.hid hb
          clear hb LV
          go_wp2_with fail
          refine (CK0.out w0).mono ?_
          rintro e w1 ⟨rfl, hb⟩
          have H1 := Lib.hid (Nx.trans H0.out hb)
          clear hb H0
          go_wp2_with fail
          refine (X1.out w1).mono ?_
          rintro e w2 ⟨rfl, hb⟩
          have H2 := Lib.hid (Nx.trans H1.out hb)
          clear hb H1
          go_wp2_with fail
          refine (X2.out w2).mono ?_
          rintro e w3 ⟨rfl, hb⟩
          have H3 := Lib.hid (Nx.trans H2.out hb)
          clear hb H2
          go_wp2_with fail
          refine (TM.out w3).mono ?_
          rintro e w4 ⟨rfl, hb⟩
          have H4 := Lib.hid (Nx.trans H3.out hb)
          clear hb H3
          go_wp2_with fail
          refine (TD.out w4).mono ?_
          rintro e w5 ⟨rfl, hb⟩
          have H5 := Lib.hid (Nx.trans H4.out hb)
          clear hb H4
          go_wp2_with fail
          refine (CKp.out w5).mono ?_
          rintro e w6 ⟨rfl, hb⟩
          have H6 := Lib.hid (Nx.trans H5.out hb)
          clear hb H5
          go_wp2_with fail
          refine (CPY.out w6 (T.out.next H6.out)).mono ?_
          rintro e w7 ⟨rfl, hb⟩
          have H7 := Lib.hid (Nx.trans H6.out hb)
          clear hb H6
          go_wp2_with fail
          refine (CP.out w7).mono ?_
          rintro e w8 ⟨rfl, hb⟩
          have H8 := Lib.hid (Nx.trans H7.out hb)
          clear hb H7
          go_wp2_with fail
          refine (CPT.out w8 (T.out.next H8.out)).mono ?_
          rintro e w9 ⟨rfl, hb⟩
          have H9 := Lib.hid (Nx.trans H8.out hb)
          clear hb H8
          go_wp2_with fail
          refine (CKc.out w9).mono ?_
          rintro e w10 ⟨rfl, hb⟩
          have H10 := Lib.hid (Nx.trans H9.out hb)
          clear hb H9
          go_wp2
          all_goals go_ret
          all_goals exact ⟨rfl, H10.out⟩
    · generalize S lf = sf at *
      generalize S s = ss at *
      rcases hcopy with ⟨e, c1, c2⟩ | ⟨c, c1, c2, c3, c4⟩
      · simp only [c1] at CPY
        rw [S_nil] at CPY
        have CPY := Lib.hid CPY
        have c3 : (e != 0) = true := by rcases c2 with rfl | rfl <;> rfl
        have c4 : (e != 6) = true := by rcases c2 with rfl | rfl <;> rfl
        clear c1 c2 CPT
        go_enter Tryd.func5, Tryd.ntmps5
        go_wp2_with fail
        refine LV.out.mono ?_
        rintro e w0 ⟨rfl, hb⟩
        have H0 := Lib.hid hb
        clear hb LV
        go_wp2_with fail
        refine (CK0.out w0).mono ?_
        rintro e w1 ⟨rfl, hb⟩
        have H1 := Lib.hid (Nx.trans H0.out hb)
        clear hb H0
        go_wp2_with fail
        refine (X1.out w1).mono ?_
        rintro e w2 ⟨rfl, hb⟩
        have H2 := Lib.hid (Nx.trans H1.out hb)
        clear hb H1
        go_wp2_with fail
        refine (X2.out w2).mono ?_
        rintro e w3 ⟨rfl, hb⟩
        have H3 := Lib.hid (Nx.trans H2.out hb)
        clear hb H2
        go_wp2_with fail
        refine (TM.out w3).mono ?_
        rintro e w4 ⟨rfl, hb⟩
        have H4 := Lib.hid (Nx.trans H3.out hb)
        clear hb H3
        go_wp2_with fail
        refine (TD.out w4).mono ?_
        rintro e w5 ⟨rfl, hb⟩
        have H5 := Lib.hid (Nx.trans H4.out hb)
        clear hb H4
        go_wp2_with fail
        refine (CKp.out w5).mono ?_
        rintro e w6 ⟨rfl, hb⟩
        have H6 := Lib.hid (Nx.trans H5.out hb)
        clear hb H5
        go_wp2_with fail
        refine (CPY.out w6 (T.out.next H6.out)).mono ?_
        rintro e w7 ⟨rfl, hb⟩
        have H7 := Lib.hid (Nx.trans H6.out hb)
        clear hb H6
        go_wp2
        all_goals go_ret
        all_goals exact ⟨rfl, H7.out⟩
      · simp only [c1] at CPY
        have CPY := Lib.hid CPY
        have tc := S_toList c
        have CP := Lib.hid c2
        have CKc := Lib.hid c3
        clear c1 c2 c3
        rcases c4 with ⟨e, d1, d2⟩ | ⟨c9, d1, d2⟩ | ⟨d1, d2, d3⟩
        · simp only [d1] at CPT
          rw [S_nil] at CPT
          have CPT := Lib.hid CPT
          have d3 : (e != 0) = true := by rcases d2 with rfl | rfl <;> rfl
          clear d1 d2
          generalize S c = sc at *
          go_enter Tryd.func5, Tryd.ntmps5
          go_wp2_with fail
          refine LV.out.mono ?_
          rintro e w0 ⟨rfl, hb⟩
          have H0 := Lib.hid hb
          clear hb LV
          go_wp2_with fail
          refine (CK0.out w0).mono ?_
          rintro e w1 ⟨rfl, hb⟩
          have H1 := Lib.hid (Nx.trans H0.out hb)
          clear hb H0
          go_wp2_with fail
          refine (X1.out w1).mono ?_
          rintro e w2 ⟨rfl, hb⟩
          have H2 := Lib.hid (Nx.trans H1.out hb)
          clear hb H1
          go_wp2_with fail
          refine (X2.out w2).mono ?_
          rintro e w3 ⟨rfl, hb⟩
          have H3 := Lib.hid (Nx.trans H2.out hb)
          clear hb H2
          go_wp2_with fail
          refine (TM.out w3).mono ?_
          rintro e w4 ⟨rfl, hb⟩
          have H4 := Lib.hid (Nx.trans H3.out hb)
          clear hb H3
          go_wp2_with fail
          refine (TD.out w4).mono ?_
          rintro e w5 ⟨rfl, hb⟩
          have H5 := Lib.hid (Nx.trans H4.out hb)
          clear hb H4
          go_wp2_with fail
          refine (CKp.out w5).mono ?_
          rintro e w6 ⟨rfl, hb⟩
          have H6 := Lib.hid (Nx.trans H5.out hb)
          clear hb H5
          go_wp2_with fail
          refine (CPY.out w6 (T.out.next H6.out)).mono ?_
          rintro e w7 ⟨rfl, hb⟩
          have H7 := Lib.hid (Nx.trans H6.out hb)
          clear hb H6
          go_wp2_with fail
          refine (CP.out w7).mono ?_
          rintro e w8 ⟨rfl, hb⟩
          have H8 := Lib.hid (Nx.trans H7.out hb)
          clear hb H7
          go_wp2_with fail
          refine (CPT.out w8 (T.out.next H8.out)).mono ?_
          rintro e w9 ⟨rfl, hb⟩
          have H9 := Lib.hid (Nx.trans H8.out hb)
          clear hb H8
          go_wp2_with fail
          refine (CKc.out w9).mono ?_
          rintro e w10 ⟨rfl, hb⟩
          have H10 := Lib.hid (Nx.trans H9.out hb)
          clear hb H9
          go_wp2
          all_goals go_ret
          all_goals exact ⟨rfl, H10.out⟩
        · simp only [d1] at CPT
          have CPT := Lib.hid CPT
          have tc9 := S_toList c9
          have d3 : (c9 != c) = true := by rw [bne, d2]; rfl
          clear d1
          generalize S c = sc at *
          generalize S c9 = sc9 at *
          go_enter Tryd.func5, Tryd.ntmps5
          go_wp2_with fail
          refine LV.out.mono ?_
          rintro e w0 ⟨rfl, hb⟩
          have H0 := Lib.hid hb
          clear hb LV
          go_wp2_with fail
          refine (CK0.out w0).mono ?_
          rintro e w1 ⟨rfl, hb⟩
          have H1 := Lib.hid (Nx.trans H0.out hb)
          clear hb H0
          go_wp2_with fail
          refine (X1.out w1).mono ?_
          rintro e w2 ⟨rfl, hb⟩
          have H2 := Lib.hid (Nx.trans H1.out hb)
          clear hb H1
          go_wp2_with fail
          refine (X2.out w2).mono ?_
          rintro e w3 ⟨rfl, hb⟩
          have H3 := Lib.hid (Nx.trans H2.out hb)
          clear hb H2
          go_wp2_with fail
          refine (TM.out w3).mono ?_
          rintro e w4 ⟨rfl, hb⟩
          have H4 := Lib.hid (Nx.trans H3.out hb)
          clear hb H3
          go_wp2_with fail
          refine (TD.out w4).mono ?_
          rintro e w5 ⟨rfl, hb⟩
          have H5 := Lib.hid (Nx.trans H4.out hb)
          clear hb H4
          go_wp2_with fail
          refine (CKp.out w5).mono ?_
          rintro e w6 ⟨rfl, hb⟩
          have H6 := Lib.hid (Nx.trans H5.out hb)
          clear hb H5
          go_wp2_with fail
          refine (CPY.out w6 (T.out.next H6.out)).mono ?_
          rintro e w7 ⟨rfl, hb⟩
          have H7 := Lib.hid (Nx.trans H6.out hb)
          clear hb H6
          go_wp2_with fail
          refine (CP.out w7).mono ?_
          rintro e w8 ⟨rfl, hb⟩
          have H8 := Lib.hid (Nx.trans H7.out hb)
          clear hb H7
          go_wp2_with fail
          refine (CPT.out w8 (T.out.next H8.out)).mono ?_
          rintro e w9 ⟨rfl, hb⟩
          have H9 := Lib.hid (Nx.trans H8.out hb)
          clear hb H8
          go_wp2_with fail
          refine (CKc.out w9).mono ?_
          rintro e w10 ⟨rfl, hb⟩
          have H10 := Lib.hid (Nx.trans H9.out hb)
          clear hb H9
          go_wp2
          all_goals go_ret
          all_goals exact ⟨rfl, H10.out⟩
        · simp only [d1] at CPT
          have CPT := Lib.hid CPT
          have d4 : (t == s) = true := by rw [d2]; exact beq_self_eq_true s
          subst d3
          clear d1 d2
          generalize S c = sc at *
          go_enter Tryd.func5, Tryd.ntmps5
          go_wp2_with fail
          refine LV.out.mono ?_
          rintro e w0 ⟨rfl, hb⟩
          have H0 := Lib.hid hb
          clear hb LV
          go_wp2_with fail
          refine (CK0.out w0).mono ?_
          rintro e w1 ⟨rfl, hb⟩
          have H1 := Lib.hid (Nx.trans H0.out hb)
          clear hb H0
          go_wp2_with fail
          refine (X1.out w1).mono ?_
          rintro e w2 ⟨rfl, hb⟩
          have H2 := Lib.hid (Nx.trans H1.out hb)
          clear hb H1
          go_wp2_with fail
          refine (X2.out w2).mono ?_
          rintro e w3 ⟨rfl, hb⟩
          have H3 := Lib.hid (Nx.trans H2.out hb)
          clear hb H2
          go_wp2_with fail
          refine (TM.out w3).mono ?_
          rintro e w4 ⟨rfl, hb⟩
          have H4 := Lib.hid (Nx.trans H3.out hb)
          clear hb H3
          go_wp2_with fail
          refine (TD.out w4).mono ?_
          rintro e w5 ⟨rfl, hb⟩
          have H5 := Lib.hid (Nx.trans H4.out hb)
          clear hb H4
          go_wp2_with fail
          refine (CKp.out w5).mono ?_
          rintro e w6 ⟨rfl, hb⟩
          have H6 := Lib.hid (Nx.trans H5.out hb)
          clear hb H5
          go_wp2_with fail
          refine (CPY.out w6 (T.out.next H6.out)).mono ?_
          rintro e w7 ⟨rfl, hb⟩
          have H7 := Lib.hid (Nx.trans H6.out hb)
          clear hb H6
          go_wp2_with fail
          refine (CP.out w7).mono ?_
          rintro e w8 ⟨rfl, hb⟩
          have H8 := Lib.hid (Nx.trans H7.out hb)
          clear hb H7
          go_wp2_with fail
          refine (CPT.out w8 (T.out.next H8.out)).mono ?_
          rintro e w9 ⟨rfl, hb⟩
          have H9 := Lib.hid (Nx.trans H8.out hb)
          clear hb H8
          go_wp2_with fail
          refine (CKc.out w9).mono ?_
          rintro e w10 ⟨rfl, hb⟩
          have H10 := Lib.hid (Nx.trans H9.out hb)
          clear hb H9
          go_wp2
          all_goals go_ret
          all_goals exact ⟨rfl, H10.out⟩

theorem back_walk (w : World) (s t : ByteArray) (d n oth : Int) (hs : s.size ≤ maxLen) (ht : t.size ≤ maxLen) (hd : -9223372036854775808 ≤ d ∧ d ≤ 9223372036854775807) (hn : -9223372036854775808 ≤ n ∧ n ≤ 9223372036854775807) (ho : -9223372036854775808 ≤ oth ∧ oth ≤ 9223372036854775807) (hT : Tab w) :
    Calls Tryd.prog 5 #[.string s, .string t, .int .i64 d, .int .i64 n, .int .i64 oth] w fun e w' => e = .returned (.bool true) ∧ Nx w w' := by
  have h := back_in w s.data.toList t.data.toList d n oth hs ht hT
  rwa [S_of, S_of] at h
end Go.Proofs.YtkffijgmcekboaaDoor

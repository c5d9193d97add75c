/- The reference: joined, Split, Ending, Within, Temp, Temped. -/
import Derived.Test.YtkffijgmcekboaaDoorPtRefD
import Derived.Test.YtkffijgmcekboaaDoorPtRest
namespace Go.Proofs.YtkffijgmcekboaaDoor
open Go.RowKit
open Go.Lib (decDigits)
set_option linter.unusedVariables false

theorem rjoined_any (w : World) (f b : List UInt8) (hf : f.length ≤ 1000000000000) (hb : b.length ≤ 1000000000000) :
    Calls Tryd.prog 41 #[.string (S f), .string (S b)] w fun e w' => e = .returned (.string (S (joined f b))) ∧ w = w' := by
  have hsz := S_size f
  have hsz2 := S_size b
  have ht := S_toList f
  by_cases h : f = []
  · have hj : joined f b = b := by unfold joined; rw [if_pos h]
    rw [hj]
    have h0 : S f = ⟨#[]⟩ := by rw [h]; rfl
    rw [h0]
    go_enter Tryd.func41, Tryd.ntmps41
    go_wp2
    go_ret
    exact ⟨rfl, rfl⟩
  · have hj : joined f b = f ++ 47 :: b := by unfold joined; rw [if_neg h]
    rw [hj]
    have hx : S f ++ ⟨#[47]⟩ ++ S b = S (f ++ 47 :: b) := by
      have : (⟨#[47]⟩ : ByteArray) = S [47] := rfl
      rw [this, S_append, S_append]
      simp
    have Hx := Lib.hid hx
    have hne : (f == []) = false := by simp [h]
    clear hx
    go_enter Tryd.func41, Tryd.ntmps41
    go_wp2
    go_ret
    rw [← Hx.out]
    exact ⟨rfl, rfl⟩

theorem rsplit_any (w : World) (l : List UInt8) :
    Calls Tryd.prog 14 #[.string (S l)] w fun e w' => e = .returned (.tuple #[.string (S (folder (pathOr l))), .string (S (base (pathOr l)))]) ∧ Nx w w' := by
  have X := Lib.hid (rcheck_any w l)
  cases hp : isPath l with
  | false =>
    have hb := chk_bne hp
    rw [pathOr_not hp]
    have e1 : S (folder []) = ⟨#[]⟩ := rfl
    have e2 : S (base []) = ⟨#[]⟩ := rfl
    rw [e1, e2]
    clear hp e1 e2
    generalize chk l = v at *
    generalize S l = s at *
    go_enter Tryd.func14, Tryd.ntmps14
    go_wp2_with fail
    refine X.out.mono ?_
    rintro e w1 ⟨rfl, hb1⟩
    have H1 := Lib.hid hb1
    clear hb1 X
    go_wp2
    go_ret2
    exact ⟨rfl, H1.out⟩
  | true =>
    rw [pathOr_path hp]
    rw [chk_zero.2 hp] at X
    have hl := (path_parts hp).len
    have Y := Lib.hid (fun W => rlast_any W l 47 (by omega))
    have hsz := S_size l
    clear hp
    rcases lastPos_cases 47 l with ⟨hq, hc⟩ | ⟨a, b, hc, h1, h2, hq⟩
    · have e1 : S (folder l) = ⟨#[]⟩ := by unfold folder; rw [hc]; rfl
      have e2 : base l = l := by unfold base; rw [hc]
      rw [e1, e2]
      rw [hq] at Y
      clear hc e1 e2 hq
      generalize S l = s at *
      go_enter Tryd.func14, Tryd.ntmps14
      go_wp2_with fail
      refine X.out.mono ?_
      rintro e w1 ⟨rfl, hb1⟩
      have H1 := Lib.hid hb1
      clear hb1 X
      go_wp2_with fail
      refine (Y.out w1).mono ?_
      rintro e w2 ⟨rfl, rfl⟩
      go_wp2
      go_ret2
      exact ⟨rfl, H1.out⟩
    · have e1 : folder l = a := by unfold folder; rw [hc]
      have e2 : base l = b := by unfold base; rw [hc]
      have x1 : (S l).extract 0 a.length = S a := by rw [S_extract, h1]; simp
      have x2 : (S l).extract (a.length + 1) l.length = S b := by
        rw [S_extract, h1]
        congr 1
        rw [List.drop_append, List.take_of_length_le (by simp; omega)]
        simp
      have hlen : a.length + 1 ≤ l.length := by rw [h1]; simp
      rw [e1, e2]
      rw [hq] at Y
      have X1 := Lib.hid x1
      have X2 := Lib.hid x2
      clear hc e1 e2 hq h1 h2 x1 x2
      generalize S a = sa at *
      generalize S b = sb at *
      generalize a.length = n at *
      generalize S l = s at *
      generalize l.length = m at *
      have i1 : (n : Int) ≤ (m : Int) := by omega
      have i2 : (n : Int) + 1 ≤ (m : Int) := by omega
      go_enter Tryd.func14, Tryd.ntmps14
      go_wp2_with fail
      refine X.out.mono ?_
      rintro e w1 ⟨rfl, hb1⟩
      have H1 := Lib.hid hb1
      clear hb1 X
      go_wp2_with fail
      refine (Y.out w1).mono ?_
      rintro e w2 ⟨rfl, rfl⟩
      go_wp2_with fail
      go_quiet (fail)
      go_wp2
      go_ret2
      rw [← X1.out, ← X2.out]
      exact ⟨rfl, H1.out.drewN _⟩

theorem rend_any (w : World) (l : List UInt8) :
    Calls Tryd.prog 16 #[.string (S l)] w fun e w' => e = .returned (.tuple #[.string (S (stem (base (pathOr l)))), .string (S (ending (base (pathOr l))))]) ∧ Nx w w' := by
  have X := Lib.hid (rsplit_any w l)
  have hl := pathOr_len l
  have hbl := base_len (pathOr l)
  generalize S (folder (pathOr l)) = sf at *
  generalize base (pathOr l) = q at *
  have hq64 : q.length ≤ 64 := by omega
  clear hl hbl
  generalize S l = sl at *
  have Y := Lib.hid (fun W => rlast_any W q 46 (by omega))
  have hsz := S_size q
  rcases lastPos_cases 46 q with ⟨hq, hc⟩ | ⟨a, b, hc, h1, h2, hq⟩
  · have e1 : stem q = q := by unfold stem; rw [hc]
    have e2 : S (ending q) = ⟨#[]⟩ := by unfold ending; rw [hc]; rfl
    rw [e1, e2]
    rw [hq] at Y
    clear hc e1 e2 hq
    generalize S q = s at *
    go_enter Tryd.func16, Tryd.ntmps16
    go_wp2_with fail
    refine X.out.mono ?_
    rintro e w1 ⟨rfl, hb1⟩
    have H1 := Lib.hid hb1
    clear hb1 X
    go_wp2_with fail
    refine (Y.out w1).mono ?_
    rintro e w2 ⟨rfl, rfl⟩
    go_wp2
    go_ret2
    exact ⟨rfl, H1.out⟩
  · have e1 : stem q = a := by unfold stem; rw [hc]
    have e2 : ending q = 46 :: b := by unfold ending; rw [hc]
    have x1 : (S q).extract 0 a.length = S a := by rw [S_extract, h1]; simp
    have x2 : (S q).extract a.length q.length = S (46 :: b) := S_tail h1.symm
    have hlen : a.length + 1 ≤ q.length := by rw [h1]; simp
    rw [e1, e2]
    rw [hq] at Y
    have X1 := Lib.hid x1
    have X2 := Lib.hid x2
    clear hc e1 e2 hq h1 h2 x1 x2
    generalize S a = sa at *
    generalize S (46 :: b) = sb at *
    generalize a.length = n at *
    generalize S q = s at *
    generalize q.length = m at *
    have i1 : (n : Int) ≤ (m : Int) := by omega
    go_enter Tryd.func16, Tryd.ntmps16
    go_wp2_with fail
    refine X.out.mono ?_
    rintro e w1 ⟨rfl, hb1⟩
    have H1 := Lib.hid hb1
    clear hb1 X
    go_wp2_with fail
    refine (Y.out w1).mono ?_
    rintro e w2 ⟨rfl, rfl⟩
    go_wp2_with fail
    go_quiet (fail)
    go_wp2
    go_ret2
    rw [← X1.out, ← X2.out]
    exact ⟨rfl, H1.out.drewN _⟩

theorem prefix_slash (f s : List UInt8) : (f ++ [47]).isPrefixOf s = true ↔ (f.length < s.length ∧ s.take f.length = f ∧ s.getD f.length 0 = 47) := by
  rw [List.isPrefixOf_iff_prefix]
  constructor
  · rintro ⟨r, rfl⟩
    refine ⟨by simp, by simp, by simp⟩
  · rintro ⟨h1, h2, h3⟩
    refine ⟨s.drop (f.length + 1), ?_⟩
    have e1 : s = s.take f.length ++ s.drop f.length := (List.take_append_drop _ _).symm
    rw [List.drop_eq_getElem_cons h1, h2] at e1
    have e2 : s[f.length] = 47 := by simpa [List.getD, h1] using h3
    rw [e2] at e1
    conv => rhs; rw [e1]
    simp
set_option maxRecDepth 100000 in
theorem rwithin_any (w : World) (f s : List UInt8) (hf : f.length ≤ 1000000) :
    Calls Tryd.prog 25 #[.string (S f), .string (S s)] w fun e w' => e = .returned (.bool (within f s)) ∧ Nx w w' := by
  have X := Lib.hid (fun W => rcheck_any W s)
  have Y := Lib.hid (fun W => rcheck_any W f)
  have ht := S_toList f
  have hsz := S_size f
  have hszs := S_size s
  unfold within
  cases e1 : isPath s with
  | false =>
    have hb := chk_bne e1
    rw [Bool.false_and]
    clear e1
    generalize chk s = v at *
    generalize S s = ss at *
    generalize S f = ff at *
    clear ht
    go_enter Tryd.func25, Tryd.ntmps25
    go_wp2_with fail
    refine (X.out w).mono ?_
    rintro e w1 ⟨rfl, hb1⟩
    have H1 := Lib.hid hb1
    clear hb1 X
    go_wp2
    go_ret
    exact ⟨rfl, H1.out⟩
  | true =>
    have h0 : chk s = 0 := chk_zero.2 e1
    have hl := (path_parts e1).len
    rw [h0] at X
    rw [Bool.true_and]
    clear e1 h0
    by_cases hfe : f = []
    · subst hfe
      rw [S_nil] at *
      clear ht hsz
      simp only [decide_true, Bool.true_or]
      generalize S s = ss at *
      go_enter Tryd.func25, Tryd.ntmps25
      go_wp2_with fail
      refine (X.out w).mono ?_
      rintro e w1 ⟨rfl, hb1⟩
      have H1 := Lib.hid hb1
      clear hb1 X
      go_wp2
      go_ret
      exact ⟨rfl, H1.out⟩
    · have hne : (f == []) = false := by simp [hfe]
      simp only [hfe, decide_false, Bool.false_or]
      cases e2 : isPath f with
      | false =>
        have hb := chk_bne e2
        have hb2 : (chk f == 0) = false := by simpa [bne] using hb
        rw [Bool.false_and]
        clear e2 hfe hb
        generalize chk f = v at *
        generalize S s = ss at *
        go_enter Tryd.func25, Tryd.ntmps25
        go_wp2_with fail
        refine (X.out w).mono ?_
        rintro e w1 ⟨rfl, hb1⟩
        have H1 := Lib.hid hb1
        clear hb1 X
        go_wp2_with fail
        refine (Y.out w1).mono ?_
        rintro e w2 ⟨rfl, hb1⟩
        have H2 := Lib.hid (Nx.trans H1.out hb1)
        clear hb1 Y H1
        go_wp2
        all_goals go_ret
        all_goals exact ⟨rfl, H2.out⟩
      | true =>
        have h0 : chk f = 0 := chk_zero.2 e2
        rw [h0] at Y
        rw [Bool.true_and]
        have hps := prefix_slash f s
        clear e2 h0 hfe
        by_cases g1 : f.length < s.length
        · have x1 : (S s).extract 0 f.length = S (s.take f.length) := by rw [S_extract]; simp
          have tt := S_toList (s.take f.length)
          have hix := fun W => run_index_string W s f.length g1
          have i1 : (f.length : Int) < (s.length : Int) := by omega
          by_cases g2 : s.take f.length = f
          · have q2 : (s.take f.length == f) = true := by simp [g2]
            by_cases g3 : s.getD f.length 0 = 47
            · have hR : (f ++ [47]).isPrefixOf s = true := hps.2 ⟨g1, g2, g3⟩
              rw [hR]
              have q3 : nth s f.length = 47 := by unfold nth; rw [g3]; rfl
              rw [q3] at hix
              rw [g2] at x1
              clear hps hR g3 q3 tt q2 g2
              generalize S f = sf at *
              generalize S s = ss at *
              go_enter Tryd.func25, Tryd.ntmps25
              go_wp2_with fail
              refine (X.out w).mono ?_
              rintro e w1 ⟨rfl, hb1⟩
              have H1 := Lib.hid hb1
              clear hb1 X
              go_wp2_with fail
              refine (Y.out w1).mono ?_
              rintro e w2 ⟨rfl, hb1⟩
              have H2 := Lib.hid (Nx.trans H1.out hb1)
              clear hb1 Y H1
              go_wp2
              all_goals go_ret
              all_goals exact ⟨rfl, H2.out⟩
            · have hR : (f ++ [47]).isPrefixOf s = false := by
                cases h : (f ++ [47]).isPrefixOf s with
                | false => rfl
                | true => exact absurd (hps.1 h).2.2 g3
              rw [hR]
              have q3 : (nth s f.length == (47 : Int)) = false := by
                unfold nth
                simp only [beq_eq_false_iff_ne, ne_eq]
                intro h
                apply g3
                rw [← UInt8.toNat_inj]
                have : (47 : UInt8).toNat = 47 := rfl
                omega
              rw [g2] at x1
              clear hps hR g3 tt q2 g2
              generalize nth s f.length = y at *
              generalize S f = sf at *
              generalize S s = ss at *
              go_enter Tryd.func25, Tryd.ntmps25
              go_wp2_with fail
              refine (X.out w).mono ?_
              rintro e w1 ⟨rfl, hb1⟩
              have H1 := Lib.hid hb1
              clear hb1 X
              go_wp2_with fail
              refine (Y.out w1).mono ?_
              rintro e w2 ⟨rfl, hb1⟩
              have H2 := Lib.hid (Nx.trans H1.out hb1)
              clear hb1 Y H1
              go_wp2
              all_goals go_ret
              all_goals exact ⟨rfl, H2.out⟩
          · have q2 : (s.take f.length == f) = false := by simp [g2]
            have hR : (f ++ [47]).isPrefixOf s = false := by
              cases h : (f ++ [47]).isPrefixOf s with
              | false => rfl
              | true => exact absurd (hps.1 h).2.1 g2
            rw [hR]
            clear hps hR g2
            generalize s.take f.length = tk at *
            generalize S tk = stk at *
            generalize S f = sf at *
            generalize S s = ss at *
            go_enter Tryd.func25, Tryd.ntmps25
            go_wp2_with fail
            refine (X.out w).mono ?_
            rintro e w1 ⟨rfl, hb1⟩
            have H1 := Lib.hid hb1
            clear hb1 X
            go_wp2_with fail
            refine (Y.out w1).mono ?_
            rintro e w2 ⟨rfl, hb1⟩
            have H2 := Lib.hid (Nx.trans H1.out hb1)
            clear hb1 Y H1
            go_wp2
            all_goals go_ret
            all_goals exact ⟨rfl, H2.out⟩
        · have hR : (f ++ [47]).isPrefixOf s = false := by
            cases h : (f ++ [47]).isPrefixOf s with
            | false => rfl
            | true => exact absurd (hps.1 h).1 g1
          rw [hR]
          have i1 : ¬ (f.length : Int) < (s.length : Int) := by omega
          clear hps hR
          generalize S f = sf at *
          generalize S s = ss at *
          go_enter Tryd.func25, Tryd.ntmps25
          go_wp2_with fail
          refine (X.out w).mono ?_
          rintro e w1 ⟨rfl, hb1⟩
          have H1 := Lib.hid hb1
          clear hb1 X
          go_wp2_with fail
          refine (Y.out w1).mono ?_
          rintro e w2 ⟨rfl, hb1⟩
          have H2 := Lib.hid (Nx.trans H1.out hb1)
          clear hb1 Y H1
          go_wp2
          all_goals go_ret
          all_goals exact ⟨rfl, H2.out⟩
end Go.Proofs.YtkffijgmcekboaaDoor

/- Package path: Copy and Copied. -/
import Derived.Test.YtkffijgmcekboaaDoorPtMark
namespace Go.Proofs.YtkffijgmcekboaaDoor
open Go.RowKit
open Go.Lib (decDigits)
set_option linter.unusedVariables false

theorem parts_any (w : World) (b : List UInt8) (hl : b.length ≤ 1000000000) :
    Calls Tryd.prog 28 #[.string (S b)] w fun e w' => e = .returned (.tuple #[.string (S (parts3 b).1), .string (S (parts3 b).2.1), .string (S (parts3 b).2.2)]) ∧ w = w' := by
  have h1 := stem_len b
  have h2 := stem_len (stem b)
  have A := Lib.hid (fun W => stem_any W b (by omega))
  have B := Lib.hid (fun W => ending_any W (stem b) (by omega))
  have C := Lib.hid (fun W => ending_any W b (by omega))
  have D := Lib.hid (fun W => stem_any W (stem b) (by omega))
  have ht := S_toList (ending (stem b))
  unfold parts3
  by_cases h : ending (stem b) = []
  · rw [if_pos h]
    simp only
    rw [h, S_nil] at B
    rw [S_nil]
    clear ht h D
    generalize S (ending b) = x at *
    generalize S (stem b) = y at *
    generalize S b = s at *
    go_enter Tryd.func28, Tryd.ntmps28
    go_wp2_with fail
    refine (A.out w).mono ?_
    rintro e w1 ⟨rfl, rfl⟩
    go_wp2_with fail
    refine (B.out w).mono ?_
    rintro e w1 ⟨rfl, rfl⟩
    go_wp2_with fail
    refine (A.out w).mono ?_
    rintro e w1 ⟨rfl, rfl⟩
    go_wp2_with fail
    refine (C.out w).mono ?_
    rintro e w1 ⟨rfl, rfl⟩
    go_wp2
    go_ret3
    exact ⟨rfl, rfl⟩
  · rw [if_neg h]
    simp only
    have hne : (ending (stem b) == []) = false := by simp [h]
    clear h
    generalize ending (stem b) = u at *
    generalize S u = z at *
    generalize S (ending b) = x at *
    generalize S (stem (stem b)) = q at *
    generalize S (stem b) = y at *
    generalize S b = s at *
    go_enter Tryd.func28, Tryd.ntmps28
    go_wp2_with fail
    refine (A.out w).mono ?_
    rintro e w1 ⟨rfl, rfl⟩
    go_wp2_with fail
    refine (B.out w).mono ?_
    rintro e w1 ⟨rfl, rfl⟩
    go_wp2_with fail
    refine (A.out w).mono ?_
    rintro e w1 ⟨rfl, rfl⟩
    go_wp2_with fail
    refine (D.out w).mono ?_
    rintro e w1 ⟨rfl, rfl⟩
    go_wp2_with fail
    refine (A.out w).mono ?_
    rintro e w1 ⟨rfl, rfl⟩
    go_wp2_with fail
    refine (B.out w).mono ?_
    rintro e w1 ⟨rfl, rfl⟩
    go_wp2_with fail
    refine (C.out w).mono ?_
    rintro e w1 ⟨rfl, rfl⟩
    go_wp2
    go_ret3
    exact ⟨rfl, rfl⟩

/-- What a text between stem and ending is read as. -/
def MarkIs (t : List UInt8) (D N : Int) (ok : Bool) : Prop :=
  (∃ d n : Nat, 1 ≤ d ∧ d ≤ 99 ∧ n ≤ 999 ∧ t = mark d n ∧ D = (d : Int) ∧ N = (n : Int) ∧ ok = true) ∨ ((∀ d n : Nat, 1 ≤ d → d ≤ 99 → n ≤ 999 → t ≠ mark d n) ∧ D = 0 ∧ N = 0 ∧ ok = false)
theorem num_nil {least most : Nat} {r : Int} {t : Bool} (h : NumIs [] least most r t) : t = false := by
  rcases h with ⟨n, _, _, h, _, _⟩ | ⟨_, _, h⟩
  · exact absurd h.symm (dec_ne_nil n)
  · exact h
theorem mark_of {t a b : List UInt8} {tt t1 t2 : Bool} {r1 r2 : Int} (hcut : IsCut 45 (Lib.trimPrefix t [46, 99]) a b tt) (h1 : NumIs a 1 99 r1 t1) (h2 : NumIs b 0 999 r2 t2) :
    MarkIs t (if Lib.hasPrefix t [46, 99] && t1 && t2 then r1 else 0) (if Lib.hasPrefix t [46, 99] && t1 && t2 then r2 else 0) (Lib.hasPrefix t [46, 99] && t1 && t2) := by
  cases hp : Lib.hasPrefix t [46, 99] && t1 && t2 with
  | true =>
    simp only [Bool.and_eq_true] at hp
    obtain ⟨⟨hp, rfl⟩, rfl⟩ := hp
    left
    have ht : t = 46 :: 99 :: Lib.trimPrefix t [46, 99] := by
      unfold Lib.trimPrefix
      rw [if_pos hp]
      have := List.isPrefixOf_iff_prefix.1 hp
      obtain ⟨r, hr⟩ := this
      rw [← hr]
      rfl
    rcases hcut with ⟨hc, _⟩ | ⟨_, _, rfl, _⟩
    · rcases h1 with ⟨d, g1, g2, g3, g4, _⟩ | ⟨_, _, h⟩
      · rcases h2 with ⟨n, k1, k2, k3, k4, _⟩ | ⟨_, _, h⟩
        · refine ⟨d, n, g1, g2, k2, ?_, g4, k4, rfl⟩
          rw [ht, (cutF_some.1 hc).1, g3, k3]
          rfl
        · exact absurd h (by decide)
      · exact absurd h (by decide)
    · exact absurd (num_nil h2) (by decide)
  | false =>
    right
    refine ⟨fun d n g1 g2 g3 e => ?_, rfl, rfl, rfl⟩
    have hpre : Lib.hasPrefix t [46, 99] = true := by
      rw [e]
      rfl
    have htrim : Lib.trimPrefix t [46, 99] = decDigits d ++ 45 :: decDigits n := by
      unfold Lib.trimPrefix
      rw [if_pos hpre, e]
      rfl
    rw [htrim] at hcut
    have hc := cutF_mark d n
    rcases hcut with ⟨hc2, _⟩ | ⟨hc2, _⟩
    · rw [hc] at hc2
      injection hc2 with hc2
      injection hc2 with e1 e2
      subst e1 e2
      have u1 := num_unique h1 (.inl ⟨d, g1, g2, rfl, rfl, rfl⟩)
      have u2 := num_unique h2 (.inl ⟨n, Nat.zero_le _, g3, rfl, rfl, rfl⟩)
      rw [hpre, u1.2, u2.2] at hp
      exact absurd hp (by decide)
    · rw [hc] at hc2
      exact absurd hc2 (by simp)
theorem mark_unique {t : List UInt8} {D N D' N' : Int} {ok ok' : Bool} (h : MarkIs t D N ok) (h' : MarkIs t D' N' ok') : D = D' ∧ N = N' ∧ ok = ok' := by
  rcases h with ⟨d, n, a1, a2, a3, a4, a5, a6, a7⟩ | ⟨a1, a2, a3, a4⟩
  · rcases h' with ⟨d', n', b1, b2, b3, b4, b5, b6, b7⟩ | ⟨b1, b2, b3, b4⟩
    · have := mark_inj (a4.symm.trans b4)
      obtain ⟨rfl, rfl⟩ := this
      exact ⟨a5.trans b5.symm, a6.trans b6.symm, a7.trans b7.symm⟩
    · exact absurd a4 (b1 d n a1 a2 a3)
  · rcases h' with ⟨d', n', b1, b2, b3, b4, b5, b6, b7⟩ | ⟨b1, b2, b3, b4⟩
    · exact absurd b4 (a1 d' n' b1 b2 b3)
    · exact ⟨a2.trans b2.symm, a3.trans b3.symm, a4.trans b4.symm⟩

theorem marked_any (w : World) (t : List UInt8) (hl : t.length ≤ 1000000000) (D N : Int) (ok : Bool) (hM : MarkIs t D N ok) :
    Calls Tryd.prog 29 #[.string (S t)] w fun e w' => e = .returned (.tuple #[.int .i64 D, .int .i64 N, .bool ok]) ∧ Nx w w' := by
  obtain ⟨a, b, tt, hcut⟩ := isCut_ex 45 (Lib.trimPrefix t [46, 99])
  obtain ⟨r1, t1, h1⟩ := num_ex a 1 99
  obtain ⟨r2, t2, h2⟩ := num_ex b 0 999
  have hu := mark_unique hM (mark_of hcut h1 h2)
  have hlen := Lib.trimPrefix_le t [46, 99]
  have hla : a.length ≤ 1000000000 ∧ b.length ≤ 1000000000 := by
    rcases hcut with ⟨h, _⟩ | ⟨_, g1, g2, _⟩
    · have := congrArg List.length (cutF_some.1 h).1
      simp at this
      omega
    · subst g1 g2
      simp
      omega
  have X := Lib.hid (Tryd.strings_CutPrefix (S t) ⟨#[46, 99]⟩ w)
  have hp : Lib.hasPrefix (S t).data.toList (⟨#[46, 99]⟩ : ByteArray).data.toList = Lib.hasPrefix t [46, 99] := rfl
  have ht : (⟨(Lib.trimPrefix (S t).data.toList (⟨#[46, 99]⟩ : ByteArray).data.toList).toArray⟩ : ByteArray) = S (Lib.trimPrefix t [46, 99]) := rfl
  rw [hp, ht] at X
  have Y := Lib.hid (fun W => cut_any W _ 45 (by omega) a b tt hcut)
  have Z1 := Lib.hid (fun W => number_any W a hla.1 1 99 (by omega) (by omega) r1 t1 h1)
  have Z2 := Lib.hid (fun W => number_any W b hla.2 0 999 (by omega) (by omega) r2 t2 h2)
  clear hcut h1 h2 hp ht hM hla hlen
  obtain ⟨rfl, rfl, rfl⟩ := hu
  generalize Lib.hasPrefix t [46, 99] = P at *
  generalize S (Lib.trimPrefix t [46, 99]) = q at *
  generalize S a = sa at *
  generalize S b = sb at *
  generalize S t = s at *
  go_enter Tryd.func29, Tryd.ntmps29
  go_wp2_with fail
  refine X.out.mono ?_
  rintro e w1 ⟨rfl, rfl⟩
  clear X
  go_wp2_with fail
  refine (Y.out w1).mono ?_
  rintro e w2 ⟨rfl, hb⟩
  have H2 := Lib.hid hb
  clear hb Y
  go_wp2_with fail
  refine (Z1.out w2).mono ?_
  rintro e w3 ⟨rfl, hb⟩
  have H3 := Lib.hid (Nx.trans H2.out hb)
  clear hb Z1 H2
  go_wp2_with fail
  refine (Z2.out w3).mono ?_
  rintro e w4 ⟨rfl, hb⟩
  have H4 := Lib.hid (Nx.trans H3.out hb)
  clear hb Z2 H3
  cases P with
  | false =>
    go_wp2
    all_goals go_ret3
    all_goals exact ⟨rfl, H4.out⟩
  | true =>
    cases t1 with
    | false =>
      go_wp2
      all_goals go_ret3
      all_goals exact ⟨rfl, H4.out⟩
    | true =>
      cases t2 with
      | false =>
        go_wp2
        all_goals go_ret3
        all_goals exact ⟨rfl, H4.out⟩
      | true =>
        go_wp2
        all_goals go_ret3
        all_goals exact ⟨rfl, H4.out⟩

/-! ### Copy -/
theorem copyS_len {l : List UInt8} (hp : isPath l = true) {d n : Nat} (hd : d < 1000) (hn : n < 1000) :
    (stem (base l) ++ mark d n ++ ending (base l)).length ≤ 100 := by
  have h1 := (path_parts hp).len
  have h2 := base_len l
  have h3 := congrArg List.length (stem_ending (base l))
  have h4 := mark_len hd hn
  simp only [List.length_append] at h3 ⊢
  omega
set_option maxHeartbeats 1000000 in
theorem copy_any (w : World) (l : List UInt8) (d n : Int) (hT : Tab w) :
    Calls Tryd.prog 17 #[.string (S l), .int .i64 d, .int .i64 n] w fun e w' => e = .returned (.tuple #[.string (S (copyR l d n).1), .int .i64 (copyR l d n).2]) ∧ Nx w w' := by
  have X := Lib.hid (check_any w l)
  have T := Lib.hid hT
  clear hT
  unfold copyR
  cases e1 : isPath l with
  | false =>
    have hb := chk_bne e1
    rw [if_pos (bne_iff_ne.1 hb)]
    clear e1
    simp only
    rw [S_nil]
    generalize chk l = v at *
    generalize S l = s at *
    go_enter Tryd.func17, Tryd.ntmps17
    go_wp2_with fail
    refine X.out.mono ?_
    rintro e w1 ⟨rfl, hb1⟩
    have H1 := Lib.hid hb1
    clear hb1 X
    go_wp2
    go_ret2
    exact ⟨rfl, H1.out⟩
  | true =>
    have h0 : chk l = 0 := chk_zero.2 e1
    rw [if_neg (by rw [h0]; simp)]
    rw [h0] at X
    by_cases hr : inRange d n
    · rw [if_neg (by simpa using hr)]
      obtain ⟨dn, rfl⟩ : ∃ dn : Nat, d = (dn : Int) := ⟨d.toNat, by unfold inRange at hr; omega⟩
      obtain ⟨nn, rfl⟩ : ∃ nn : Nat, n = (nn : Int) := ⟨n.toNat, by unfold inRange at hr; omega⟩
      unfold inRange at hr
      obtain ⟨i1, i2, i3, i4⟩ := hr
      rw [Int.toNat_natCast, Int.toNat_natCast]
      have hl := (path_parts e1).len
      have hbl := base_len l
      have hfl := folder_len l
      have hsl := stem_len (base l)
      have hel := ending_len (base l)
      have hml := mark_len (d := dn) (n := nn) (by omega) (by omega)
      have hcl := copyS_len e1 (d := dn) (n := nn) (by omega) (by omega)
      have B := Lib.hid (fun W => base_any W l (by omega))
      have F := Lib.hid (fun W => folder_any W l (by omega))
      have ST := Lib.hid (fun W => stem_any W (base l) (by omega))
      have EN := Lib.hid (fun W => ending_any W (base l) (by omega))
      have M := Lib.hid (fun W h => mark_any W dn nn (by omega) (by omega) h)
      have WI := Lib.hid (fun W => with_any W (folder l) (stem (base l) ++ mark dn nn ++ ending (base l)) (by omega) (by omega))
      have hcs : joined (folder l) (stem (base l) ++ mark dn nn ++ ending (base l)) = copyS l dn nn := rfl
      rw [hcs] at WI
      have hjl : (copyS l dn nn).length ≤ 1000 := by
        rw [← hcs]
        have := joined_len (folder l) (stem (base l) ++ mark dn nn ++ ending (base l))
        omega
      have hx : S (stem (base l)) ++ S (mark dn nn) ++ S (ending (base l)) = S (stem (base l) ++ mark dn nn ++ ending (base l)) := by rw [S_append, S_append]
      rw [← hx] at WI
      have CK := Lib.hid (fun W => check_any W (copyS l dn nn))
      have O := Lib.hid (fun W => own_any W (S (copyS l dn nn)) (by rw [S_size]; omega))
      have z1 := S_size (stem (base l))
      have z2 := S_size (mark dn nn)
      have z3 := S_size (ending (base l))
      have y1 : (S (stem (base l))).size ≤ 64 := by omega
      have y2 : (S (mark dn nn)).size ≤ 9 := by omega
      have y3 : (S (ending (base l))).size ≤ 64 := by omega
      clear hcs hx hjl hcl hml hel hsl hfl hbl hl e1 h0 z1 z2 z3
      generalize S (stem (base l)) = sst at *
      generalize S (ending (base l)) = sen at *
      generalize S (mark dn nn) = sma at *
      generalize S (base l) = sba at *
      generalize S (folder l) = sfo at *
      generalize copyS l dn nn = c at *
      generalize S l = s at *
      cases e2 : isPath c with
      | false =>
        have hb2 := chk_bne e2
        rw [if_pos (bne_iff_ne.1 hb2)]
        simp only
        rw [S_nil]
        clear e2
        generalize chk c = v at *
        generalize S c = sc at *
        go_enter Tryd.func17, Tryd.ntmps17
        go_wp2_with fail
        refine X.out.mono ?_
        rintro e w1 ⟨rfl, hb1⟩
        have H1 := Lib.hid hb1
        clear hb1 X
        go_wp2_with fail
        refine (B.out w1).mono ?_
        rintro e w2 ⟨rfl, rfl⟩
        go_wp2_with fail
        refine (F.out w1).mono ?_
        rintro e w2 ⟨rfl, rfl⟩
        go_wp2_with fail
        refine (ST.out w1).mono ?_
        rintro e w2 ⟨rfl, rfl⟩
        go_wp2_with fail
        refine (M.out w1 (T.out.next H1.out)).mono ?_
        rintro e w2 ⟨rfl, hb1⟩
        have H2 := Lib.hid (Nx.trans H1.out hb1)
        clear hb1 H1 M B F ST
        go_wp2_with fail
        refine (EN.out w2).mono ?_
        rintro e w3 ⟨rfl, rfl⟩
        go_wp2_with fail
        refine (WI.out w2).mono ?_
        rintro e w3 ⟨rfl, rfl⟩
        go_wp2_with fail
        refine (CK.out w2).mono ?_
        rintro e w3 ⟨rfl, hb1⟩
        have H3 := Lib.hid (Nx.trans H2.out hb1)
        clear hb1 H2 CK EN WI
        go_wp2
        go_ret2
        exact ⟨rfl, H3.out⟩
      | true =>
        have h0 : chk c = 0 := chk_zero.2 e2
        rw [if_neg (by rw [h0]; simp)]
        rw [h0] at CK
        simp only
        clear e2 h0
        generalize S c = sc at *
        go_enter Tryd.func17, Tryd.ntmps17
        go_wp2_with fail
        refine X.out.mono ?_
        rintro e w1 ⟨rfl, hb1⟩
        have H1 := Lib.hid hb1
        clear hb1 X
        go_wp2_with fail
        refine (B.out w1).mono ?_
        rintro e w2 ⟨rfl, rfl⟩
        go_wp2_with fail
        refine (F.out w1).mono ?_
        rintro e w2 ⟨rfl, rfl⟩
        go_wp2_with fail
        refine (ST.out w1).mono ?_
        rintro e w2 ⟨rfl, rfl⟩
        go_wp2_with fail
        refine (M.out w1 (T.out.next H1.out)).mono ?_
        rintro e w2 ⟨rfl, hb1⟩
        have H2 := Lib.hid (Nx.trans H1.out hb1)
        clear hb1 H1 M B F ST
        go_wp2_with fail
        refine (EN.out w2).mono ?_
        rintro e w3 ⟨rfl, rfl⟩
        go_wp2_with fail
        refine (WI.out w2).mono ?_
        rintro e w3 ⟨rfl, rfl⟩
        go_wp2_with fail
        refine (CK.out w2).mono ?_
        rintro e w3 ⟨rfl, hb1⟩
        have H3 := Lib.hid (Nx.trans H2.out hb1)
        clear hb1 H2 CK EN WI
        go_wp2_with fail
        refine (O.out w3).mono ?_
        rintro e w4 ⟨rfl, hb1⟩
        have H4 := Lib.hid (Nx.trans H3.out hb1)
        clear hb1 H3 O
        go_wp2
        go_ret2
        exact ⟨rfl, H4.out⟩
    · rw [if_pos hr]
      simp only
      rw [S_nil]
      generalize S l = s at *
      have hr4 : d < 1 ∨ (¬ d < 1 ∧ 99 < d) ∨ (¬ d < 1 ∧ ¬ 99 < d ∧ n < 0) ∨ (¬ d < 1 ∧ ¬ 99 < d ∧ ¬ n < 0 ∧ 999 < n) := by unfold inRange at hr; omega
      clear hr e1 h0
      rcases hr4 with h | ⟨h, h1⟩ | ⟨h, h1, h2⟩ | ⟨h, h1, h2, h3⟩
      all_goals
        go_enter Tryd.func17, Tryd.ntmps17
        go_wp2_with fail
        refine X.out.mono ?_
        rintro e w1 ⟨rfl, hb1⟩
        have H1 := Lib.hid hb1
        clear hb1 X
        go_wp2
        go_ret2
        exact ⟨rfl, H1.out⟩

/-! ### Copied -/
def CopiedIs (s P : List UInt8) (D N : Int) (ok : Bool) : Prop :=
  (isCopy s P D N ∧ ok = true) ∨ ((∀ p d n, ¬ isCopy s p d n) ∧ P = [] ∧ D = 0 ∧ N = 0 ∧ ok = false)
theorem copied_unique {s P P' : List UInt8} {D N D' N' : Int} {ok ok' : Bool} (h : CopiedIs s P D N ok) (h' : CopiedIs s P' D' N' ok') : P = P' ∧ D = D' ∧ N = N' ∧ ok = ok' := by
  rcases h with ⟨a1, a2⟩ | ⟨a1, a2, a3, a4, a5⟩
  · rcases h' with ⟨b1, b2⟩ | ⟨b1, b2, b3, b4, b5⟩
    · obtain ⟨e1, e2, e3⟩ := isCopy_unique a1 b1
      exact ⟨e1, e2, e3, a2.trans b2.symm⟩
    · exact absurd a1 (b1 _ _ _)
  · rcases h' with ⟨b1, b2⟩ | ⟨b1, b2, b3, b4, b5⟩
    · exact absurd b1 (a1 _ _ _)
    · exact ⟨a2.trans b2.symm, a3.trans b3.symm, a4.trans b4.symm, a5.trans b5.symm⟩
theorem mark_ne_nil (d n : Nat) : mark d n ≠ [] := by simp [mark]
theorem copied_of {s : List UInt8} {D N : Int} {ok : Bool} (h : MarkIs (parts3 (base (pathOr s))).2.1 D N ok) :
    CopiedIs s (if ok then joined (folder (pathOr s)) ((parts3 (base (pathOr s))).1 ++ (parts3 (base (pathOr s))).2.2) else []) D N ok := by
  unfold pathOr at *
  by_cases hs : isPath s = true
  · rw [if_pos hs] at h ⊢
    rcases h with ⟨d, n, h1, h2, h3, h4, rfl, rfl, rfl⟩ | ⟨h1, rfl, rfl, rfl⟩
    · left
      have := copy_of_copied (m := []) (d := (d : Int)) (n := (n : Int)) hs (by unfold inRange; omega) (by rw [Int.toNat_natCast, Int.toNat_natCast]; exact h4)
      exact ⟨this, rfl⟩
    · right
      refine ⟨fun p d n hc => ?_, rfl, rfl, rfl, rfl⟩
      obtain ⟨_, e, r⟩ := copied_of_copy hc
      have e2 := congrArg Prod.snd e
      unfold inRange at r
      exact h1 d.toNat n.toNat (by omega) (by omega) (by omega) e2
  · rw [if_neg hs] at h ⊢
    have e0 : (parts3 (base [])).2.1 = [] := by decide
    rw [e0] at h
    rcases h with ⟨d, n, h1, h2, h3, h4, rfl, rfl, rfl⟩ | ⟨h1, rfl, rfl, rfl⟩
    · exact absurd h4.symm (mark_ne_nil d n)
    · right
      exact ⟨fun p d n hc => hs (copied_of_copy hc).1, rfl, rfl, rfl, rfl⟩
theorem mark_ex (t : List UInt8) : ∃ D N ok, MarkIs t D N ok := by
  by_cases h : ∃ d n : Nat, 1 ≤ d ∧ d ≤ 99 ∧ n ≤ 999 ∧ t = mark d n
  · obtain ⟨d, n, h1, h2, h3, h4⟩ := h
    exact ⟨d, n, true, .inl ⟨d, n, h1, h2, h3, h4, rfl, rfl, rfl⟩⟩
  · exact ⟨0, 0, false, .inr ⟨fun d n h1 h2 h3 h4 => h ⟨d, n, h1, h2, h3, h4⟩, rfl, rfl, rfl⟩⟩
theorem results_tmp4 {fn : Func} {t u v x : Tmp} (h : fn.results = #[.tmp t, .tmp u, .tmp v, .tmp x]) (tmps : Array Value) (P : Program) (w : World) :
    (results fn tmps).run P w = .ok (.tuple #[tmps.getD t undef, tmps.getD u undef, tmps.getD v undef, tmps.getD x undef]) w := by
  simp [results, h]
theorem parts3_len (b : List UInt8) : (parts3 b).1.length ≤ b.length ∧ (parts3 b).2.1.length ≤ b.length ∧ (parts3 b).2.2.length ≤ b.length := by
  have := congrArg List.length (parts3_whole b)
  simp only [List.length_append] at this
  omega
theorem copied_any (w : World) (l P : List UInt8) (D N : Int) (ok : Bool) (hC : CopiedIs l P D N ok) :
    Calls Tryd.prog 7 #[.string (S l)] w fun e w' => e = .returned (.tuple #[.string (S P), .int .i64 D, .int .i64 N, .bool ok]) ∧ Nx w w' := by
  obtain ⟨D', N', ok', hM⟩ := mark_ex (parts3 (base (pathOr l))).2.1
  obtain ⟨rfl, rfl, rfl, rfl⟩ := copied_unique hC (copied_of hM)
  clear hC
  have X := Lib.hid (pathOr_any w l)
  have hl := pathOr_len l
  generalize pathOr l = p at *
  have hbl := base_len p
  have hfl := folder_len p
  obtain ⟨g1, g2, g3⟩ := parts3_len (base p)
  have B := Lib.hid (fun W => base_any W p (by omega))
  have PA := Lib.hid (fun W => parts_any W (base p) (by omega))
  have MK := Lib.hid (fun W => marked_any W (parts3 (base p)).2.1 (by omega) D N ok hM)
  have F := Lib.hid (fun W => folder_any W p (by omega))
  have WI := Lib.hid (fun W => with_any W (folder p) ((parts3 (base p)).1 ++ (parts3 (base p)).2.2) (by omega) (by simp; omega))
  have hjl := joined_len (folder p) ((parts3 (base p)).1 ++ (parts3 (base p)).2.2)
  have O := Lib.hid (fun W => own_any W (S (joined (folder p) ((parts3 (base p)).1 ++ (parts3 (base p)).2.2))) (by rw [S_size]; simp at hjl; omega))
  rw [← S_append] at WI
  have z1 := S_size (parts3 (base p)).1
  have z3 := S_size (parts3 (base p)).2.2
  have y1 : (S (parts3 (base p)).1).size ≤ 64 := by omega
  have y3 : (S (parts3 (base p)).2.2).size ≤ 64 := by omega
  have hz : ok = false → D = 0 ∧ N = 0 := by
    intro h
    rcases hM with ⟨_, _, _, _, _, _, _, _, h1⟩ | ⟨_, h1, h2, _⟩
    · rw [h] at h1
      exact absurd h1 (by decide)
    · exact ⟨h1, h2⟩
  clear hM hl hbl hfl g1 g2 g3 hjl z1 z3
  generalize joined (folder p) ((parts3 (base p)).1 ++ (parts3 (base p)).2.2) = c at *
  generalize S (parts3 (base p)).1 = sa at *
  generalize S (parts3 (base p)).2.1 = sm at *
  generalize S (parts3 (base p)).2.2 = se at *
  generalize S (base p) = sb at *
  generalize S (folder p) = sf at *
  generalize S p = sp at *
  generalize S l = s at *
  cases ok with
  | false =>
    obtain ⟨rfl, rfl⟩ := hz rfl
    rw [if_neg (by decide), S_nil]
    clear hz
    go_enter Tryd.func7, Tryd.ntmps7
    go_wp2_with fail
    refine X.out.mono ?_
    rintro e w1 ⟨rfl, hb1⟩
    have H1 := Lib.hid hb1
    clear hb1 X
    go_wp2_with fail
    refine (B.out w1).mono ?_
    rintro e w2 ⟨rfl, rfl⟩
    go_wp2_with fail
    refine (PA.out w1).mono ?_
    rintro e w2 ⟨rfl, rfl⟩
    go_wp2_with fail
    refine (MK.out w1).mono ?_
    rintro e w2 ⟨rfl, hb1⟩
    have H2 := Lib.hid (Nx.trans H1.out hb1)
    clear hb1 H1 MK B PA
    go_wp2
    refine bodyPost_ret (results_tmp4 rfl _ _ _) rfl ?_
    exact ⟨rfl, H2.out⟩
  | true =>
    rw [if_pos rfl]
    clear hz
    generalize S c = sc at *
    go_enter Tryd.func7, Tryd.ntmps7
    go_wp2_with fail
    refine X.out.mono ?_
    rintro e w1 ⟨rfl, hb1⟩
    have H1 := Lib.hid hb1
    clear hb1 X
    go_wp2_with fail
    refine (B.out w1).mono ?_
    rintro e w2 ⟨rfl, rfl⟩
    go_wp2_with fail
    refine (PA.out w1).mono ?_
    rintro e w2 ⟨rfl, rfl⟩
    go_wp2_with fail
    refine (MK.out w1).mono ?_
    rintro e w2 ⟨rfl, hb1⟩
    have H2 := Lib.hid (Nx.trans H1.out hb1)
    clear hb1 H1 MK B PA
    go_wp2_with fail
    refine (F.out w2).mono ?_
    rintro e w3 ⟨rfl, rfl⟩
    go_wp2_with fail
    refine (WI.out w2).mono ?_
    rintro e w3 ⟨rfl, rfl⟩
    go_wp2_with fail
    refine (O.out w2).mono ?_
    rintro e w3 ⟨rfl, hb1⟩
    have H3 := Lib.hid (Nx.trans H2.out hb1)
    clear hb1 H2 F WI O
    go_wp2
    refine bodyPost_ret (results_tmp4 rfl _ _ _) rfl ?_
    exact ⟨rfl, H3.out⟩
end Go.Proofs.YtkffijgmcekboaaDoor

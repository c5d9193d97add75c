/- Package path: Split, Ending, Within, Temp, Temped. -/
import Derived.Test.YtkffijgmcekboaaDoorPtName
namespace Go.Proofs.YtkffijgmcekboaaDoor
open Go.RowKit
open Go.Lib (decDigits)
set_option linter.unusedVariables false

theorem folder_len (l : List UInt8) : (folder l).length ≤ l.length := by
  rcases slash_split l with ⟨_, e, _⟩ | ⟨f, b, e, _, e1, _⟩
  · rw [e]; simp
  · rw [e1, e]; simp
theorem base_len (l : List UInt8) : (base l).length ≤ l.length := by
  rcases slash_split l with ⟨_, _, e⟩ | ⟨f, b, e, _, _, e1⟩
  · rw [e]; exact Nat.le_refl _
  · rw [e1, e]; simp; omega
theorem stem_len (l : List UInt8) : (stem l).length ≤ l.length := by have := congrArg List.length (stem_ending l); simp at this; omega
theorem ending_len (l : List UInt8) : (ending l).length ≤ l.length := by have := congrArg List.length (stem_ending l); simp at this; omega
theorem joined_len (f b : List UInt8) : (joined f b).length ≤ f.length + b.length + 1 := by
  unfold joined
  split
  · omega
  · simp only [List.length_append, List.length_cons]
    omega

theorem split_any (w : World) (l : List UInt8) :
    Calls Tryd.prog 13 #[.string (S l)] w fun e w' => e = .returned (.tuple #[.string (S (folder (pathOr l))), .string (S (base (pathOr l)))]) ∧ Nx w w' := by
  have X := Lib.hid (pathOr_any w l)
  have hl := pathOr_len l
  generalize pathOr l = p at *
  have h1 := folder_len p
  have h2 := base_len p
  have F := Lib.hid (fun W => folder_any W p (by omega))
  have B := Lib.hid (fun W => base_any W p (by omega))
  have OF := Lib.hid (fun W => own_any W (S (folder p)) (by rw [S_size]; omega))
  have OB := Lib.hid (fun W => own_any W (S (base p)) (by rw [S_size]; omega))
  clear hl h1 h2
  generalize S (folder p) = f at *
  generalize S (base p) = b at *
  generalize S p = s at *
  go_enter Tryd.func13, Tryd.ntmps13
  go_wp2_with fail
  refine X.out.mono ?_
  rintro e w1 ⟨rfl, hb⟩
  have H1 := Lib.hid hb
  clear hb X
  go_wp2_with fail
  refine (F.out w1).mono ?_
  rintro e w2 ⟨rfl, rfl⟩
  go_wp2_with fail
  refine (OF.out w1).mono ?_
  rintro e w2 ⟨rfl, hb⟩
  have H2 := Lib.hid (Nx.trans H1.out hb)
  clear hb H1 F OF
  go_wp2_with fail
  refine (B.out w2).mono ?_
  rintro e w3 ⟨rfl, rfl⟩
  go_wp2_with fail
  refine (OB.out w2).mono ?_
  rintro e w3 ⟨rfl, hb⟩
  have H3 := Lib.hid (Nx.trans H2.out hb)
  clear hb H2 B OB
  go_wp2
  go_ret2
  exact ⟨rfl, H3.out⟩
theorem end_any (w : World) (l : List UInt8) :
    Calls Tryd.prog 15 #[.string (S l)] w fun e w' => e = .returned (.tuple #[.string (S (stem (base (pathOr l)))), .string (S (ending (base (pathOr l))))]) ∧ Nx w w' := by
  have X := Lib.hid (pathOr_any w l)
  have hl := pathOr_len l
  generalize pathOr l = p at *
  have h2 := base_len p
  have B := Lib.hid (fun W => base_any W p (by omega))
  generalize base p = q at *
  have h3 := stem_len q
  have h4 := ending_len q
  have F := Lib.hid (fun W => stem_any W q (by omega))
  have G := Lib.hid (fun W => ending_any W q (by omega))
  have OF := Lib.hid (fun W => own_any W (S (stem q)) (by rw [S_size]; omega))
  have OB := Lib.hid (fun W => own_any W (S (ending q)) (by rw [S_size]; omega))
  clear hl h2 h3 h4
  generalize S (stem q) = f at *
  generalize S (ending q) = b at *
  generalize S q = t at *
  generalize S p = s at *
  go_enter Tryd.func15, Tryd.ntmps15
  go_wp2_with fail
  refine X.out.mono ?_
  rintro e w1 ⟨rfl, hb⟩
  have H1 := Lib.hid hb
  clear hb X
  go_wp2_with fail
  refine (B.out w1).mono ?_
  rintro e w2 ⟨rfl, rfl⟩
  go_wp2_with fail
  refine (F.out w1).mono ?_
  rintro e w2 ⟨rfl, rfl⟩
  go_wp2_with fail
  refine (OF.out w1).mono ?_
  rintro e w2 ⟨rfl, hb⟩
  have H2 := Lib.hid (Nx.trans H1.out hb)
  clear hb H1 F OF
  go_wp2_with fail
  refine (G.out w2).mono ?_
  rintro e w3 ⟨rfl, rfl⟩
  go_wp2_with fail
  refine (OB.out w2).mono ?_
  rintro e w3 ⟨rfl, hb⟩
  have H3 := Lib.hid (Nx.trans H2.out hb)
  clear hb H2 B OB
  go_wp2
  go_ret2
  exact ⟨rfl, H3.out⟩

/-- Whether a path is in a folder. -/
def within (f s : List UInt8) : Bool := isPath s && (decide (f = []) || (isPath f && (f ++ [47]).isPrefixOf s))
theorem chk_bne {l : List UInt8} (h : isPath l = false) : ((chk l) != 0) = true := by
  rw [bne_iff_ne]
  intro h2
  rw [chk_zero.1 h2] at h
  exact absurd h (by decide)
theorem within_any (w : World) (f s : List UInt8) (hf : f.length ≤ 1000000000000) :
    Calls Tryd.prog 12 #[.string (S f), .string (S s)] w fun e w' => e = .returned (.bool (within f s)) ∧ Nx w w' := by
  have X := Lib.hid (fun W => check_any W s)
  have Y := Lib.hid (fun W => check_any W f)
  have ht := S_toList f
  have hsz := S_size f
  unfold within
  cases e1 : isPath s with
  | false =>
    have hb := chk_bne e1
    rw [Bool.false_and]
    clear e1
    generalize chk s = v at *
    generalize S s = ss at *
    generalize S f = ff at *
    clear ht
    go_enter Tryd.func12, Tryd.ntmps12
    go_wp2_with fail
    refine (X.out w).mono ?_
    rintro e w1 ⟨rfl, hb1⟩
    have H1 := Lib.hid hb1
    clear hb1 X
    go_wp2
    go_ret
    exact ⟨rfl, H1.out⟩
  | true =>
    have h0 : chk s = 0 := chk_zero.2 e1
    rw [h0] at X
    rw [Bool.true_and]
    clear e1 h0
    by_cases hfe : f = []
    · subst hfe
      rw [S_nil] at *
      clear ht hsz
      simp only [decide_true, Bool.true_or]
      generalize S s = ss at *
      go_enter Tryd.func12, Tryd.ntmps12
      go_wp2_with fail
      refine (X.out w).mono ?_
      rintro e w1 ⟨rfl, hb1⟩
      have H1 := Lib.hid hb1
      clear hb1 X
      go_wp2
      go_ret
      exact ⟨rfl, H1.out⟩
    · have hne : (f == []) = false := by simp [hfe]
      simp only [hfe, decide_false, Bool.false_or]
      cases e2 : isPath f with
      | false =>
        have hb := chk_bne e2
        have hb2 : (chk f == 0) = false := by simpa [bne] using hb
        rw [Bool.false_and]
        clear e2 hfe hb
        generalize chk f = v at *
        generalize S s = ss at *
        go_enter Tryd.func12, Tryd.ntmps12
        go_wp2_with fail
        refine (X.out w).mono ?_
        rintro e w1 ⟨rfl, hb1⟩
        have H1 := Lib.hid hb1
        clear hb1 X
        go_wp2_with fail
        refine (Y.out w1).mono ?_
        rintro e w2 ⟨rfl, hb1⟩
        have H2 := Lib.hid (Nx.trans H1.out hb1)
        clear hb1 Y H1
        go_wp2
        go_ret
        exact ⟨rfl, H2.out⟩
      | true =>
        have h0 : chk f = 0 := chk_zero.2 e2
        rw [h0] at Y
        rw [Bool.true_and]
        have hx : S f ++ ⟨#[47]⟩ = S (f ++ [47]) := by
          have : (⟨#[47]⟩ : ByteArray) = S [47] := rfl
          rw [this, S_append]
        have Z := Lib.hid (fun W => Tryd.strings_HasPrefix (S s) (S f ++ ⟨#[47]⟩) W)
        have hz : Lib.hasPrefix (S s).data.toList (S f ++ ⟨#[47]⟩).data.toList = (f ++ [47]).isPrefixOf s := by
          rw [hx]
          rfl
        rw [hz] at Z
        clear e2 h0 hfe hx hz
        generalize (f ++ [47]).isPrefixOf s = R at *
        generalize S s = ss at *
        go_enter Tryd.func12, Tryd.ntmps12
        go_wp2_with fail
        refine (X.out w).mono ?_
        rintro e w1 ⟨rfl, hb1⟩
        have H1 := Lib.hid hb1
        clear hb1 X
        go_wp2_with fail
        refine (Y.out w1).mono ?_
        rintro e w2 ⟨rfl, hb1⟩
        have H2 := Lib.hid (Nx.trans H1.out hb1)
        clear hb1 Y H1
        go_wp2_with fail
        refine (Z.out w2).mono ?_
        rintro e w3 ⟨rfl, rfl⟩
        go_wp2
        go_ret
        exact ⟨rfl, H2.out⟩

/-! ### Temporary files -/
def tempL : List UInt8 := [46, 116, 109, 112, 47]
def tempR (s : List UInt8) : List UInt8 × Int := if isPath s then (tempL ++ s, 0) else ([], chk s)
def tempedR (s : List UInt8) : List UInt8 × Bool := if tempL.isPrefixOf s && isPath (s.drop 5) then (s.drop 5, true) else ([], false)
theorem temp_any (w : World) (l : List UInt8) :
    Calls Tryd.prog 8 #[.string (S l)] w fun e w' => e = .returned (.tuple #[.string (S (tempR l).1), .int .i64 (tempR l).2]) ∧ Nx w w' := by
  have X := Lib.hid (check_any w l)
  unfold tempR
  cases e1 : isPath l with
  | false =>
    have hb := chk_bne e1
    rw [if_neg (by decide)]
    clear e1
    simp only
    rw [S_nil]
    generalize chk l = v at *
    generalize S l = s at *
    go_enter Tryd.func8, Tryd.ntmps8
    go_wp2_with fail
    refine X.out.mono ?_
    rintro e w1 ⟨rfl, hb1⟩
    have H1 := Lib.hid hb1
    clear hb1 X
    go_wp2
    go_ret2
    exact ⟨rfl, H1.out⟩
  | true =>
    have h0 : chk l = 0 := chk_zero.2 e1
    rw [h0] at X
    rw [if_pos rfl]
    simp only
    have hl := (path_parts e1).len
    have Y := Lib.hid (fun W => with_any W [46, 116, 109, 112] l (by simp) (by omega))
    have hj : joined [46, 116, 109, 112] l = tempL ++ l := rfl
    rw [hj] at Y
    have hs : S [46, 116, 109, 112] = ⟨#[46, 116, 109, 112]⟩ := rfl
    rw [hs] at Y
    clear e1 h0 hl hj hs
    generalize S (tempL ++ l) = t at *
    generalize S l = s at *
    go_enter Tryd.func8, Tryd.ntmps8
    go_wp2_with fail
    refine X.out.mono ?_
    rintro e w1 ⟨rfl, hb1⟩
    have H1 := Lib.hid hb1
    clear hb1 X
    go_wp2_with fail
    refine (Y.out w1).mono ?_
    rintro e w2 ⟨rfl, rfl⟩
    go_wp2
    go_ret2
    exact ⟨rfl, H1.out⟩
theorem temped_any (w : World) (l : List UInt8) :
    Calls Tryd.prog 9 #[.string (S l)] w fun e w' => e = .returned (.tuple #[.string (S (tempedR l).1), .bool (tempedR l).2]) ∧ Nx w w' := by
  have X := Lib.hid (Tryd.strings_CutPrefix (S l) ⟨#[46, 116, 109, 112, 47]⟩ w)
  have hp : Lib.hasPrefix (S l).data.toList (⟨#[46, 116, 109, 112, 47]⟩ : ByteArray).data.toList = tempL.isPrefixOf l := rfl
  have ht : Lib.trimPrefix (S l).data.toList (⟨#[46, 116, 109, 112, 47]⟩ : ByteArray).data.toList = if tempL.isPrefixOf l then l.drop 5 else l := rfl
  rw [hp, ht] at X
  unfold tempedR
  clear hp ht
  cases e1 : tempL.isPrefixOf l with
  | false =>
    rw [e1] at X
    rw [if_neg (by decide)] at X
    rw [Bool.false_and, if_neg (by decide)]
    simp only
    rw [S_nil]
    clear e1
    have hS : (⟨l.toArray⟩ : ByteArray) = S l := rfl
    rw [hS] at X
    clear hS
    generalize S l = s at *
    go_enter Tryd.func9, Tryd.ntmps9
    go_wp2_with fail
    refine X.out.mono ?_
    rintro e w1 ⟨rfl, rfl⟩
    clear X
    go_wp2
    go_ret2
    exact ⟨rfl, Nx.refl _⟩
  | true =>
    rw [e1] at X
    rw [if_pos rfl] at X
    rw [Bool.true_and]
    clear e1
    have hS : (⟨(l.drop 5).toArray⟩ : ByteArray) = S (l.drop 5) := rfl
    rw [hS] at X
    clear hS
    generalize l.drop 5 = p at *
    have Y := Lib.hid (fun W => check_any W p)
    cases e2 : isPath p with
    | false =>
      have hb := chk_bne e2
      rw [if_neg (by decide)]
      simp only
      rw [S_nil]
      clear e2
      generalize chk p = v at *
      generalize S p = q at *
      generalize S l = s at *
      go_enter Tryd.func9, Tryd.ntmps9
      go_wp2_with fail
      refine X.out.mono ?_
      rintro e w1 ⟨rfl, rfl⟩
      clear X
      go_wp2_with fail
      refine (Y.out w1).mono ?_
      rintro e w2 ⟨rfl, hb1⟩
      have H1 := Lib.hid hb1
      clear hb1 Y
      go_wp2
      go_ret2
      exact ⟨rfl, H1.out⟩
    | true =>
      have h0 : chk p = 0 := chk_zero.2 e2
      rw [h0] at Y
      rw [if_pos rfl]
      simp only
      have hl := (path_parts e2).len
      have O := Lib.hid (fun W => own_any W (S p) (by rw [S_size]; omega))
      clear e2 h0 hl
      generalize S p = q at *
      generalize S l = s at *
      go_enter Tryd.func9, Tryd.ntmps9
      go_wp2_with fail
      refine X.out.mono ?_
      rintro e w1 ⟨rfl, rfl⟩
      clear X
      go_wp2_with fail
      refine (Y.out w1).mono ?_
      rintro e w2 ⟨rfl, hb1⟩
      have H1 := Lib.hid hb1
      clear hb1 Y
      go_wp2_with fail
      refine (O.out w2).mono ?_
      rintro e w3 ⟨rfl, hb1⟩
      have H2 := Lib.hid (Nx.trans H1.out hb1)
      clear hb1 O H1
      go_wp2
      go_ret2
      exact ⟨rfl, H2.out⟩
end Go.Proofs.YtkffijgmcekboaaDoor

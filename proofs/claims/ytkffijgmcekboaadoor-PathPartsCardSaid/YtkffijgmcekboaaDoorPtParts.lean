/- The walk of the law PathParts. -/
import Derived.Test.YtkffijgmcekboaaDoorPtFacts
namespace Go.Proofs.YtkffijgmcekboaaDoor
open Go.RowKit
open Go.Lib (decDigits)
set_option linter.unusedVariables false

/-- Behind the guards and the first question. -/
theorem parts_rest_not (s : List UInt8) (hp : isPath s = false) : (∀ W, Calls Tryd.prog 13 #[.string (S s)] W fun e w' => e = .returned (.tuple #[.string ⟨#[]⟩, .string ⟨#[]⟩]) ∧ Nx W w') ∧ (∀ W, Calls Tryd.prog 15 #[.string (S s)] W fun e w' => e = .returned (.tuple #[.string ⟨#[]⟩, .string ⟨#[]⟩]) ∧ Nx W w') ∧ (∀ W, Calls Tryd.prog 12 #[.string ⟨#[]⟩, .string (S s)] W fun e w' => e = .returned (.bool false) ∧ Nx W w') := by
  refine ⟨fun W => ?_, fun W => ?_, fun W => ?_⟩
  · have := split_any W s
    rw [pathOr_not hp] at this
    exact this
  · have := end_any W s
    rw [pathOr_not hp] at this
    exact this
  · have := within_any W [] s (by simp)
    rw [within_nil_not hp] at this
    exact this
theorem parts_rest_path (s : List UInt8) (hp : isPath s = true) : (∀ W, Calls Tryd.prog 13 #[.string (S s)] W fun e w' => e = .returned (.tuple #[.string (S (folder s)), .string (S (base s))]) ∧ Nx W w') ∧ (∀ W, Calls Tryd.prog 15 #[.string (S s)] W fun e w' => e = .returned (.tuple #[.string (S (stem (base s))), .string (S (ending (base s)))]) ∧ Nx W w') ∧ (∀ W, Calls Tryd.prog 12 #[.string ⟨#[]⟩, .string (S s)] W fun e w' => e = .returned (.bool true) ∧ Nx W w') ∧ (∀ W, Calls Tryd.prog 11 #[.string (S s)] W fun e w' => e = .returned (.int .i64 0) ∧ Nx W w') := by
  refine ⟨fun W => ?_, fun W => ?_, fun W => ?_, fun W => ?_⟩
  · have := split_any W s
    rw [pathOr_path hp] at this
    exact this
  · have := end_any W s
    rw [pathOr_path hp] at this
    exact this
  · have := within_any W [] s (by simp)
    rw [within_nil hp] at this
    exact this
  · have := check_any W s
    rw [chk_zero.2 hp] at this
    exact this

set_option maxRecDepth 100000 in
set_option maxHeartbeats 4000000 in
theorem parts_in (w : World) (s t u : List UInt8) (d n : Int) (hs : s.length ≤ maxLen) (ht : t.length ≤ maxLen) (hu : u.length ≤ maxLen) (hT : Tab w) :
    Calls Tryd.prog 6 #[.string (S s), .string (S t), .string (S u), .int .i64 d, .int .i64 n] w fun e w' => e = .returned (.bool true) ∧ Nx w w' := by
  have LV := Lib.hid (lives_any w hT)
  have T := Lib.hid hT
  have zs := S_size s
  have zt := S_size t
  have zu := S_size u
  have ts := S_toList s
  clear hT
  unfold maxLen at hs ht hu
  by_cases hlong : 200 < s.length ∨ (¬ 200 < s.length ∧ 200 < t.length) ∨ (¬ 200 < s.length ∧ ¬ 200 < t.length ∧ 200 < u.length)
  · rcases hlong with h | ⟨h, h1⟩ | ⟨h, h1, h2⟩
    all_goals
      have i1 : decide ((200 : Int) < (s.length : Int)) = decide (200 < s.length) := by congr 1; simp; omega
      have i2 : decide ((200 : Int) < (t.length : Int)) = decide (200 < t.length) := by congr 1; simp; omega
      have i3 : decide ((200 : Int) < (u.length : Int)) = decide (200 < u.length) := by congr 1; simp; omega
      generalize S s = ss at *
      generalize S t = st at *
      generalize S u = su at *
      clear ts
      go_enter Tryd.func6, Tryd.ntmps6
      go_wp2_with fail
      refine LV.out.mono ?_
      rintro e w0 ⟨rfl, hb⟩
      have H0 := Lib.hid hb
      clear hb LV
      go_wp2
      all_goals go_ret
      all_goals exact ⟨rfl, H0.out⟩
  have l1 : s.length ≤ 200 := by omega
  have l2 : t.length ≤ 200 := by omega
  have l3 : u.length ≤ 200 := by omega
  clear hlong hs ht hu
  have i1 : ¬ (200 : Int) < (s.length : Int) := by omega
  have i2 : ¬ (200 : Int) < (t.length : Int) := by omega
  have i3 : ¬ (200 : Int) < (u.length : Int) := by omega
  have WST := Lib.hid (fun W => within_any W s t (by omega))
  have WTU := Lib.hid (fun W => within_any W t u (by omega))
  have WSU := Lib.hid (fun W => within_any W s u (by omega))
  have CKs := Lib.hid (fun W => check_any W s)
  have htr := @within_trans s t u
  have WSS := fun W => within_any W s s (by omega)
  rw [within_self] at WSS
  have WSS := Lib.hid WSS
  have hfirst : within s t = false ∨ (within s t = true ∧ within t u = false) ∨ (within s t = true ∧ within t u = true ∧ within s u = true) := by
    cases h1 : within s t with
    | false => exact .inl rfl
    | true =>
      cases h2 : within t u with
      | false => exact .inr (.inl ⟨rfl, rfl⟩)
      | true => exact .inr (.inr ⟨rfl, rfl, htr h1 h2⟩)
  clear htr
  cases hsp : isPath s with
  | false =>
    have hb0 := chk_bne hsp
    have X := parts_rest_not s hsp
    have X1 := Lib.hid X.1
    have X2 := Lib.hid X.2.1
    have WN := Lib.hid X.2.2
    clear hsp X
    generalize chk s = v at *
    generalize S s = ss at *
    generalize S t = st at *
    generalize S u = su at *
    rcases hfirst with g1 | ⟨g1, g2⟩ | ⟨g1, g2, g3⟩
    · go_enter Tryd.func6, Tryd.ntmps6
      go_wp2_with fail
      refine LV.out.mono ?_
      rintro e w0 ⟨rfl, hb⟩
      have H0 := Lib.hid hb
      clear hb LV
      rw [g1] at WST
      clear g1
      go_wp2_with fail
      refine (WST.out w0).mono ?_
      rintro e w1 ⟨rfl, hb⟩
      have H1 := Lib.hid (Nx.trans H0.out hb)
      clear hb H0
      clear WST WTU WSU
      go_wp2_with fail
      refine (X1.out w1).mono ?_
      rintro e w2 ⟨rfl, hb⟩
      have H2 := Lib.hid (Nx.trans H1.out hb)
      clear hb H1
      go_wp2_with fail
      refine (X2.out w2).mono ?_
      rintro e w3 ⟨rfl, hb⟩
      have H3 := Lib.hid (Nx.trans H2.out hb)
      clear hb H2
      go_wp2_with fail
      refine (CKs.out w3).mono ?_
      rintro e w4 ⟨rfl, hb⟩
      have H4 := Lib.hid (Nx.trans H3.out hb)
      clear hb H3
      go_wp2_with fail
      refine (WN.out w4).mono ?_
      rintro e w5 ⟨rfl, hb⟩
      have H5 := Lib.hid (Nx.trans H4.out hb)
      clear hb H4
      go_wp2
      all_goals go_ret
      all_goals exact ⟨rfl, H5.out⟩
    · go_enter Tryd.func6, Tryd.ntmps6
      go_wp2_with fail
      refine LV.out.mono ?_
      rintro e w0 ⟨rfl, hb⟩
      have H0 := Lib.hid hb
      clear hb LV
      rw [g1] at WST
      rw [g2] at WTU
      clear g1 g2
      go_wp2_with fail
      refine (WST.out w0).mono ?_
      rintro e w1 ⟨rfl, hb⟩
      have H1 := Lib.hid (Nx.trans H0.out hb)
      clear hb H0
      go_wp2_with fail
      refine (WTU.out w1).mono ?_
      rintro e w2 ⟨rfl, hb⟩
      have H2 := Lib.hid (Nx.trans H1.out hb)
      clear hb H1
      clear WST WTU WSU
      go_wp2_with fail
      refine (X1.out w2).mono ?_
      rintro e w3 ⟨rfl, hb⟩
      have H3 := Lib.hid (Nx.trans H2.out hb)
      clear hb H2
      go_wp2_with fail
      refine (X2.out w3).mono ?_
      rintro e w4 ⟨rfl, hb⟩
      have H4 := Lib.hid (Nx.trans H3.out hb)
      clear hb H3
      go_wp2_with fail
      refine (CKs.out w4).mono ?_
      rintro e w5 ⟨rfl, hb⟩
      have H5 := Lib.hid (Nx.trans H4.out hb)
      clear hb H4
      go_wp2_with fail
      refine (WN.out w5).mono ?_
      rintro e w6 ⟨rfl, hb⟩
      have H6 := Lib.hid (Nx.trans H5.out hb)
      clear hb H5
      go_wp2
      all_goals go_ret
      all_goals exact ⟨rfl, H6.out⟩
    · go_enter Tryd.func6, Tryd.ntmps6
      go_wp2_with fail
      refine LV.out.mono ?_
      rintro e w0 ⟨rfl, hb⟩
      have H0 := Lib.hid hb
      clear hb LV
      rw [g1] at WST
      rw [g2] at WTU
      rw [g3] at WSU
      clear g1 g2 g3
      go_wp2_with fail
      refine (WST.out w0).mono ?_
      rintro e w1 ⟨rfl, hb⟩
      have H1 := Lib.hid (Nx.trans H0.out hb)
      clear hb H0
      go_wp2_with fail
      refine (WTU.out w1).mono ?_
      rintro e w2 ⟨rfl, hb⟩
      have H2 := Lib.hid (Nx.trans H1.out hb)
      clear hb H1
      go_wp2_with fail
      refine (WSU.out w2).mono ?_
      rintro e w3 ⟨rfl, hb⟩
      have H3 := Lib.hid (Nx.trans H2.out hb)
      clear hb H2
      clear WST WTU WSU
      go_wp2_with fail
      refine (X1.out w3).mono ?_
      rintro e w4 ⟨rfl, hb⟩
      have H4 := Lib.hid (Nx.trans H3.out hb)
      clear hb H3
      go_wp2_with fail
      refine (X2.out w4).mono ?_
      rintro e w5 ⟨rfl, hb⟩
      have H5 := Lib.hid (Nx.trans H4.out hb)
      clear hb H4
      go_wp2_with fail
      refine (CKs.out w5).mono ?_
      rintro e w6 ⟨rfl, hb⟩
      have H6 := Lib.hid (Nx.trans H5.out hb)
      clear hb H5
      go_wp2_with fail
      refine (WN.out w6).mono ?_
      rintro e w7 ⟨rfl, hb⟩
      have H7 := Lib.hid (Nx.trans H6.out hb)
      clear hb H6
      go_wp2
      all_goals go_ret
      all_goals exact ⟨rfl, H7.out⟩
  | true =>
    have X := parts_rest_path s hsp
    have X1 := Lib.hid X.1
    have X2 := Lib.hid X.2.1
    have WN := Lib.hid X.2.2.1
    have CK0 := Lib.hid X.2.2.2
    have P := path_parts hsp
    have hlen := P.len
    have hnm := P.name
    have NM := fun W => name_any W (base s) (by have := base_len s; omega)
    rw [hnm] at NM
    have NM := Lib.hid NM
    have hx : S (stem (base s)) ++ S (ending (base s)) = S (base s) := by rw [S_append, stem_ending]
    have y1 : (S (stem (base s))).size ≤ 64 := by rw [S_size]; have := stem_len (base s); have := base_len s; omega
    have y2 : (S (ending (base s))).size ≤ 64 := by rw [S_size]; have := ending_len (base s); have := base_len s; omega
    have y3 : (S (folder s)).size ≤ 64 := by rw [S_size]; have := folder_len s; omega
    have y4 : (S (base s)).size ≤ 64 := by rw [S_size]; have := base_len s; omega
    have tf := S_toList (folder s)
    have te := S_toList (ending (base s))
    have hfold : (folder s = [] ∧ S (folder s) = ⟨#[]⟩ ∧ S (base s) = S s) ∨ ((folder s == []) = false ∧ S (folder s) ++ ⟨#[47]⟩ ++ S (base s) = S s ∧ (∀ W, Calls Tryd.prog 11 #[.string (S (folder s))] W fun e w' => e = .returned (.int .i64 0) ∧ Nx W w') ∧ (∀ W, Calls Tryd.prog 12 #[.string (S (folder s)), .string (S s)] W fun e w' => e = .returned (.bool true) ∧ Nx W w')) := by
      by_cases hf : folder s = []
      · exact .inl ⟨hf, by rw [hf]; rfl, by rw [base_whole hsp hf]⟩
      · right
        obtain ⟨h1, h2, h3⟩ := within_folder hsp hf
        refine ⟨by simp [hf], ?_, fun W => ?_, fun W => ?_⟩
        · have : (⟨#[47]⟩ : ByteArray) = S [47] := rfl
          rw [this, S_append, S_append, List.append_assoc]
          exact congrArg S h3
        · have := check_any W (folder s)
          rw [chk_zero.2 h1] at this
          exact this
        · have := within_any W (folder s) s (by have := folder_len s; omega)
          rw [h2] at this
          exact this
    have CPY := fun W h => copy_any W s d n h
    have hcopy : (∃ e, copyR s d n = ([], e) ∧ (e = 2 ∨ e = 3)) ∨ (∃ c, copyR s d n = (c, 0) ∧ (∀ W, Calls Tryd.prog 13 #[.string (S c)] W fun e w' => e = .returned (.tuple #[.string (S (folder s)), .string (S (base c))]) ∧ Nx W w') ∧ (∀ W, Calls Tryd.prog 15 #[.string (S c)] W fun e w' => e = .returned (.tuple #[.string (S (stem (base c))), .string (S (ending (base c)))]) ∧ Nx W w') ∧ (∀ W, Calls Tryd.prog 7 #[.string (S c)] W fun e w' => e = .returned (.tuple #[.string (S s), .int .i64 d, .int .i64 n, .bool true]) ∧ Nx W w') ∧ (c == s) = false ∧ (ending (base s) = [] ∨ ((ending (base s) == []) = false ∧ ending (base c) = ending (base s)))) := by
      rcases copyR_cases s d n with h | ⟨c, h1, h2⟩
      · exact .inl h
      · right
        have C := copy_of h2
        have Y := parts_rest_path c C.cpath
        refine ⟨c, h1, ?_, Y.2.1, fun W => copied_any W c s d n true (.inl ⟨h2, rfl⟩), by simp [C.ne], ?_⟩
        · rw [← C.cfolder]
          exact Y.1
        · by_cases he : ending (base s) = []
          · exact .inl he
          · exact .inr ⟨by simp [he], C.cending.resolve_left he⟩
    clear X P hnm hsp hlen CKs
    generalize folder s = lf at *
    generalize ending (base s) = le at *
    generalize S (stem (base s)) = sst at *
    generalize S (base s) = sb at *
    generalize S t = st at *
    generalize S u = su at *
    rcases hfold with ⟨f1, f2, f3⟩ | ⟨f1, f2, f3, f4⟩
    · subst f1
      subst f3
      clear f2
      generalize S s = ss at *
      rcases hcopy with ⟨e, c1, c2⟩ | ⟨c, c1, c2, c3, c4, c5, c6⟩
      · simp only [c1] at CPY
        rw [S_nil] at CPY
        have CPY := Lib.hid CPY
        have c3 : (e != 0) = true := by rcases c2 with rfl | rfl <;> rfl
        clear c1 c2
        generalize S le = sen at *
        rcases hfirst with g1 | ⟨g1, g2⟩ | ⟨g1, g2, g3⟩
        · go_enter Tryd.func6, Tryd.ntmps6
          go_wp2_with fail
          refine LV.out.mono ?_
          rintro e w0 ⟨rfl, hb⟩
          have H0 := Lib.hid hb
          clear hb LV
          rw [g1] at WST
          clear g1
          go_wp2_with fail
          refine (WST.out w0).mono ?_
          rintro e w1 ⟨rfl, hb⟩
          have H1 := Lib.hid (Nx.trans H0.out hb)
          clear hb H0
          clear WST WTU WSU
          go_wp2_with fail
          refine (X1.out w1).mono ?_
          rintro e w2 ⟨rfl, hb⟩
          have H2 := Lib.hid (Nx.trans H1.out hb)
          clear hb H1
          go_wp2_with fail
          refine (X2.out w2).mono ?_
          rintro e w3 ⟨rfl, hb⟩
          have H3 := Lib.hid (Nx.trans H2.out hb)
          clear hb H2
          go_wp2_with fail
          refine (CK0.out w3).mono ?_
          rintro e w4 ⟨rfl, hb⟩
          have H4 := Lib.hid (Nx.trans H3.out hb)
          clear hb H3
          go_wp2_with fail
          refine (NM.out w4).mono ?_
          rintro e w5 ⟨rfl, hb⟩
          have H5 := Lib.hid (Nx.trans H4.out hb)
          clear hb H4
          go_wp2_with fail
          refine (WN.out w5).mono ?_
          rintro e w6 ⟨rfl, hb⟩
          have H6 := Lib.hid (Nx.trans H5.out hb)
          clear hb H5
          go_wp2_with fail
          refine (WSS.out w6).mono ?_
          rintro e w7 ⟨rfl, hb⟩
          have H7 := Lib.hid (Nx.trans H6.out hb)
          clear hb H6
          go_wp2_with fail
          refine (CPY.out w7 (T.out.next H7.out)).mono ?_
          rintro e w8 ⟨rfl, hb⟩
          have H8 := Lib.hid (Nx.trans H7.out hb)
          clear hb H7
          go_wp2
          all_goals go_ret
          all_goals exact ⟨rfl, H8.out⟩
        · go_enter Tryd.func6, Tryd.ntmps6
          go_wp2_with fail
          refine LV.out.mono ?_
          rintro e w0 ⟨rfl, hb⟩
          have H0 := Lib.hid hb
          clear hb LV
          rw [g1] at WST
          rw [g2] at WTU
          clear g1 g2
          go_wp2_with fail
          refine (WST.out w0).mono ?_
          rintro e w1 ⟨rfl, hb⟩
          have H1 := Lib.hid (Nx.trans H0.out hb)
          clear hb H0
          go_wp2_with fail
          refine (WTU.out w1).mono ?_
          rintro e w2 ⟨rfl, hb⟩
          have H2 := Lib.hid (Nx.trans H1.out hb)
          clear hb H1
          clear WST WTU WSU
          go_wp2_with fail
          refine (X1.out w2).mono ?_
          rintro e w3 ⟨rfl, hb⟩
          have H3 := Lib.hid (Nx.trans H2.out hb)
          clear hb H2
          go_wp2_with fail
          refine (X2.out w3).mono ?_
          rintro e w4 ⟨rfl, hb⟩
          have H4 := Lib.hid (Nx.trans H3.out hb)
          clear hb H3
          go_wp2_with fail
          refine (CK0.out w4).mono ?_
          rintro e w5 ⟨rfl, hb⟩
          have H5 := Lib.hid (Nx.trans H4.out hb)
          clear hb H4
          go_wp2_with fail
          refine (NM.out w5).mono ?_
          rintro e w6 ⟨rfl, hb⟩
          have H6 := Lib.hid (Nx.trans H5.out hb)
          clear hb H5
          go_wp2_with fail
          refine (WN.out w6).mono ?_
          rintro e w7 ⟨rfl, hb⟩
          have H7 := Lib.hid (Nx.trans H6.out hb)
          clear hb H6
          go_wp2_with fail
          refine (WSS.out w7).mono ?_
          rintro e w8 ⟨rfl, hb⟩
          have H8 := Lib.hid (Nx.trans H7.out hb)
          clear hb H7
          go_wp2_with fail
          refine (CPY.out w8 (T.out.next H8.out)).mono ?_
          rintro e w9 ⟨rfl, hb⟩
          have H9 := Lib.hid (Nx.trans H8.out hb)
          clear hb H8
          go_wp2
          all_goals go_ret
          all_goals exact ⟨rfl, H9.out⟩
        · go_enter Tryd.func6, Tryd.ntmps6
          go_wp2_with fail
          refine LV.out.mono ?_
          rintro e w0 ⟨rfl, hb⟩
          have H0 := Lib.hid hb
          clear hb LV
          rw [g1] at WST
          rw [g2] at WTU
          rw [g3] at WSU
          clear g1 g2 g3
          go_wp2_with fail
          refine (WST.out w0).mono ?_
          rintro e w1 ⟨rfl, hb⟩
          have H1 := Lib.hid (Nx.trans H0.out hb)
          clear hb H0
          go_wp2_with fail
          refine (WTU.out w1).mono ?_
          rintro e w2 ⟨rfl, hb⟩
          have H2 := Lib.hid (Nx.trans H1.out hb)
          clear hb H1
          go_wp2_with fail
          refine (WSU.out w2).mono ?_
          rintro e w3 ⟨rfl, hb⟩
          have H3 := Lib.hid (Nx.trans H2.out hb)
          clear hb H2
          clear WST WTU WSU
          go_wp2_with fail
          refine (X1.out w3).mono ?_
          rintro e w4 ⟨rfl, hb⟩
          have H4 := Lib.hid (Nx.trans H3.out hb)
          clear hb H3
          go_wp2_with fail
          refine (X2.out w4).mono ?_
          rintro e w5 ⟨rfl, hb⟩
          have H5 := Lib.hid (Nx.trans H4.out hb)
          clear hb H4
          go_wp2_with fail
          refine (CK0.out w5).mono ?_
          rintro e w6 ⟨rfl, hb⟩
          have H6 := Lib.hid (Nx.trans H5.out hb)
          clear hb H5
          go_wp2_with fail
          refine (NM.out w6).mono ?_
          rintro e w7 ⟨rfl, hb⟩
          have H7 := Lib.hid (Nx.trans H6.out hb)
          clear hb H6
          go_wp2_with fail
          refine (WN.out w7).mono ?_
          rintro e w8 ⟨rfl, hb⟩
          have H8 := Lib.hid (Nx.trans H7.out hb)
          clear hb H7
          go_wp2_with fail
          refine (WSS.out w8).mono ?_
          rintro e w9 ⟨rfl, hb⟩
          have H9 := Lib.hid (Nx.trans H8.out hb)
          clear hb H8
          go_wp2_with fail
          refine (CPY.out w9 (T.out.next H9.out)).mono ?_
          rintro e w10 ⟨rfl, hb⟩
          have H10 := Lib.hid (Nx.trans H9.out hb)
          clear hb H9
          go_wp2
          all_goals go_ret
          all_goals exact ⟨rfl, H10.out⟩
      · simp only [c1] at CPY
        have CPY := Lib.hid CPY
        have tc := S_toList c
        have te2 := S_toList (ending (base c))
        have c7 : (c != s) = true := by rw [bne, c5]; rfl
        have Y1 := Lib.hid c2
        have Y2 := Lib.hid c3
        have Y3 := Lib.hid c4
        clear c1 c2 c3 c4
        generalize S (base c) = scb at *
        generalize S (stem (base c)) = scs at *
        generalize S (ending (base c)) = sce at *
        generalize S c = sc at *
        rcases c6 with c6 | ⟨c6, c8⟩
        · subst c6
          rcases hfirst with g1 | ⟨g1, g2⟩ | ⟨g1, g2, g3⟩
          · go_enter Tryd.func6, Tryd.ntmps6
            go_wp2_with fail
            refine LV.out.mono ?_
            rintro e w0 ⟨rfl, hb⟩
            have H0 := Lib.hid hb
            clear hb LV
            rw [g1] at WST
            clear g1
            go_wp2_with fail
            refine (WST.out w0).mono ?_
            rintro e w1 ⟨rfl, hb⟩
            have H1 := Lib.hid (Nx.trans H0.out hb)
            clear hb H0
            clear WST WTU WSU
            go_wp2_with fail
            refine (X1.out w1).mono ?_
            rintro e w2 ⟨rfl, hb⟩
            have H2 := Lib.hid (Nx.trans H1.out hb)
            clear hb H1
            go_wp2_with fail
            refine (X2.out w2).mono ?_
            rintro e w3 ⟨rfl, hb⟩
            have H3 := Lib.hid (Nx.trans H2.out hb)
            clear hb H2
            go_wp2_with fail
            refine (CK0.out w3).mono ?_
            rintro e w4 ⟨rfl, hb⟩
            have H4 := Lib.hid (Nx.trans H3.out hb)
            clear hb H3
            go_wp2_with fail
            refine (NM.out w4).mono ?_
            rintro e w5 ⟨rfl, hb⟩
            have H5 := Lib.hid (Nx.trans H4.out hb)
            clear hb H4
            go_wp2_with fail
            refine (WN.out w5).mono ?_
            rintro e w6 ⟨rfl, hb⟩
            have H6 := Lib.hid (Nx.trans H5.out hb)
            clear hb H5
            go_wp2_with fail
            refine (WSS.out w6).mono ?_
            rintro e w7 ⟨rfl, hb⟩
            have H7 := Lib.hid (Nx.trans H6.out hb)
            clear hb H6
            go_wp2_with fail
            refine (CPY.out w7 (T.out.next H7.out)).mono ?_
            rintro e w8 ⟨rfl, hb⟩
            have H8 := Lib.hid (Nx.trans H7.out hb)
            clear hb H7
            go_wp2_with fail
            refine (Y1.out w8).mono ?_
            rintro e w9 ⟨rfl, hb⟩
            have H9 := Lib.hid (Nx.trans H8.out hb)
            clear hb H8
            go_wp2_with fail
            refine (Y2.out w9).mono ?_
            rintro e w10 ⟨rfl, hb⟩
            have H10 := Lib.hid (Nx.trans H9.out hb)
            clear hb H9
            go_wp2_with fail
            refine (Y3.out w10).mono ?_
            rintro e w11 ⟨rfl, hb⟩
            have H11 := Lib.hid (Nx.trans H10.out hb)
            clear hb H10
            go_wp2_with fail
            refine (CPY.out w11 (T.out.next H11.out)).mono ?_
            rintro e w12 ⟨rfl, hb⟩
            have H12 := Lib.hid (Nx.trans H11.out hb)
            clear hb H11
            go_wp2
            all_goals go_ret
            all_goals exact ⟨rfl, H12.out⟩
          · go_enter Tryd.func6, Tryd.ntmps6
            go_wp2_with fail
            refine LV.out.mono ?_
            rintro e w0 ⟨rfl, hb⟩
            have H0 := Lib.hid hb
            clear hb LV
            rw [g1] at WST
            rw [g2] at WTU
            clear g1 g2
            go_wp2_with fail
            refine (WST.out w0).mono ?_
            rintro e w1 ⟨rfl, hb⟩
            have H1 := Lib.hid (Nx.trans H0.out hb)
            clear hb H0
            go_wp2_with fail
            refine (WTU.out w1).mono ?_
            rintro e w2 ⟨rfl, hb⟩
            have H2 := Lib.hid (Nx.trans H1.out hb)
            clear hb H1
            clear WST WTU WSU
            go_wp2_with fail
            refine (X1.out w2).mono ?_
            rintro e w3 ⟨rfl, hb⟩
            have H3 := Lib.hid (Nx.trans H2.out hb)
            clear hb H2
            go_wp2_with fail
            refine (X2.out w3).mono ?_
            rintro e w4 ⟨rfl, hb⟩
            have H4 := Lib.hid (Nx.trans H3.out hb)
            clear hb H3
            go_wp2_with fail
            refine (CK0.out w4).mono ?_
            rintro e w5 ⟨rfl, hb⟩
            have H5 := Lib.hid (Nx.trans H4.out hb)
            clear hb H4
            go_wp2_with fail
            refine (NM.out w5).mono ?_
            rintro e w6 ⟨rfl, hb⟩
            have H6 := Lib.hid (Nx.trans H5.out hb)
            clear hb H5
            go_wp2_with fail
            refine (WN.out w6).mono ?_
            rintro e w7 ⟨rfl, hb⟩
            have H7 := Lib.hid (Nx.trans H6.out hb)
            clear hb H6
            go_wp2_with fail
            refine (WSS.out w7).mono ?_
            rintro e w8 ⟨rfl, hb⟩
            have H8 := Lib.hid (Nx.trans H7.out hb)
            clear hb H7
            go_wp2_with fail
            refine (CPY.out w8 (T.out.next H8.out)).mono ?_
            rintro e w9 ⟨rfl, hb⟩
            have H9 := Lib.hid (Nx.trans H8.out hb)
            clear hb H8
            go_wp2_with fail
            refine (Y1.out w9).mono ?_
            rintro e w10 ⟨rfl, hb⟩
            have H10 := Lib.hid (Nx.trans H9.out hb)
            clear hb H9
            go_wp2_with fail
            refine (Y2.out w10).mono ?_
            rintro e w11 ⟨rfl, hb⟩
            have H11 := Lib.hid (Nx.trans H10.out hb)
            clear hb H10
            go_wp2_with fail
            refine (Y3.out w11).mono ?_
            rintro e w12 ⟨rfl, hb⟩
            have H12 := Lib.hid (Nx.trans H11.out hb)
            clear hb H11
            go_wp2_with fail
            refine (CPY.out w12 (T.out.next H12.out)).mono ?_
            rintro e w13 ⟨rfl, hb⟩
            have H13 := Lib.hid (Nx.trans H12.out hb)
            clear hb H12
            go_wp2
            all_goals go_ret
            all_goals exact ⟨rfl, H13.out⟩
          · go_enter Tryd.func6, Tryd.ntmps6
            go_wp2_with fail
            refine LV.out.mono ?_
            rintro e w0 ⟨rfl, hb⟩
            have H0 := Lib.hid hb
            clear hb LV
            rw [g1] at WST
            rw [g2] at WTU
            rw [g3] at WSU
            clear g1 g2 g3
            go_wp2_with fail
            refine (WST.out w0).mono ?_
            rintro e w1 ⟨rfl, hb⟩
            have H1 := Lib.hid (Nx.trans H0.out hb)
            clear hb H0
            go_wp2_with fail
            refine (WTU.out w1).mono ?_
            rintro e w2 ⟨rfl, hb⟩
            have H2 := Lib.hid (Nx.trans H1.out hb)
            clear hb H1
            go_wp2_with fail
            refine (WSU.out w2).mono ?_
            rintro e w3 ⟨rfl, hb⟩
            have H3 := Lib.hid (Nx.trans H2.out hb)
            clear hb H2
            clear WST WTU WSU
            go_wp2_with fail
            refine (X1.out w3).mono ?_
            rintro e w4 ⟨rfl, hb⟩
            have H4 := Lib.hid (Nx.trans H3.out hb)
            clear hb H3
            go_wp2_with fail
            refine (X2.out w4).mono ?_
            rintro e w5 ⟨rfl, hb⟩
            have H5 := Lib.hid (Nx.trans H4.out hb)
            clear hb H4
            go_wp2_with fail
            refine (CK0.out w5).mono ?_
            rintro e w6 ⟨rfl, hb⟩
            have H6 := Lib.hid (Nx.trans H5.out hb)
            clear hb H5
            go_wp2_with fail
            refine (NM.out w6).mono ?_
            rintro e w7 ⟨rfl, hb⟩
            have H7 := Lib.hid (Nx.trans H6.out hb)
            clear hb H6
            go_wp2_with fail
            refine (WN.out w7).mono ?_
            rintro e w8 ⟨rfl, hb⟩
            have H8 := Lib.hid (Nx.trans H7.out hb)
            clear hb H7
            go_wp2_with fail
            refine (WSS.out w8).mono ?_
            rintro e w9 ⟨rfl, hb⟩
            have H9 := Lib.hid (Nx.trans H8.out hb)
            clear hb H8
            go_wp2_with fail
            refine (CPY.out w9 (T.out.next H9.out)).mono ?_
            rintro e w10 ⟨rfl, hb⟩
            have H10 := Lib.hid (Nx.trans H9.out hb)
            clear hb H9
            go_wp2_with fail
            refine (Y1.out w10).mono ?_
            rintro e w11 ⟨rfl, hb⟩
            have H11 := Lib.hid (Nx.trans H10.out hb)
            clear hb H10
            go_wp2_with fail
            refine (Y2.out w11).mono ?_
            rintro e w12 ⟨rfl, hb⟩
            have H12 := Lib.hid (Nx.trans H11.out hb)
            clear hb H11
            go_wp2_with fail
            refine (Y3.out w12).mono ?_
            rintro e w13 ⟨rfl, hb⟩
            have H13 := Lib.hid (Nx.trans H12.out hb)
            clear hb H12
            go_wp2_with fail
            refine (CPY.out w13 (T.out.next H13.out)).mono ?_
            rintro e w14 ⟨rfl, hb⟩
            have H14 := Lib.hid (Nx.trans H13.out hb)
            clear hb H13
            go_wp2
            all_goals go_ret
            all_goals exact ⟨rfl, H14.out⟩
        · rw [c8] at te2
          clear c8
          generalize S le = sen at *
          rcases hfirst with g1 | ⟨g1, g2⟩ | ⟨g1, g2, g3⟩
          · go_enter Tryd.func6, Tryd.ntmps6
            go_wp2_with fail
            refine LV.out.mono ?_
            rintro e w0 ⟨rfl, hb⟩
            have H0 := Lib.hid hb
            clear hb LV
            rw [g1] at WST
            clear g1
            go_wp2_with fail
            refine (WST.out w0).mono ?_
            rintro e w1 ⟨rfl, hb⟩
            have H1 := Lib.hid (Nx.trans H0.out hb)
            clear hb H0
            clear WST WTU WSU
            go_wp2_with fail
            refine (X1.out w1).mono ?_
            rintro e w2 ⟨rfl, hb⟩
            have H2 := Lib.hid (Nx.trans H1.out hb)
            clear hb H1
            go_wp2_with fail
            refine (X2.out w2).mono ?_
            rintro e w3 ⟨rfl, hb⟩
            have H3 := Lib.hid (Nx.trans H2.out hb)
            clear hb H2
            go_wp2_with fail
            refine (CK0.out w3).mono ?_
            rintro e w4 ⟨rfl, hb⟩
            have H4 := Lib.hid (Nx.trans H3.out hb)
            clear hb H3
            go_wp2_with fail
            refine (NM.out w4).mono ?_
            rintro e w5 ⟨rfl, hb⟩
            have H5 := Lib.hid (Nx.trans H4.out hb)
            clear hb H4
            go_wp2_with fail
            refine (WN.out w5).mono ?_
            rintro e w6 ⟨rfl, hb⟩
            have H6 := Lib.hid (Nx.trans H5.out hb)
            clear hb H5
            go_wp2_with fail
            refine (WSS.out w6).mono ?_
            rintro e w7 ⟨rfl, hb⟩
            have H7 := Lib.hid (Nx.trans H6.out hb)
            clear hb H6
            go_wp2_with fail
            refine (CPY.out w7 (T.out.next H7.out)).mono ?_
            rintro e w8 ⟨rfl, hb⟩
            have H8 := Lib.hid (Nx.trans H7.out hb)
            clear hb H7
            go_wp2_with fail
            refine (Y1.out w8).mono ?_
            rintro e w9 ⟨rfl, hb⟩
            have H9 := Lib.hid (Nx.trans H8.out hb)
            clear hb H8
            go_wp2_with fail
            refine (Y2.out w9).mono ?_
            rintro e w10 ⟨rfl, hb⟩
            have H10 := Lib.hid (Nx.trans H9.out hb)
            clear hb H9
            go_wp2_with fail
            refine (Y3.out w10).mono ?_
            rintro e w11 ⟨rfl, hb⟩
            have H11 := Lib.hid (Nx.trans H10.out hb)
            clear hb H10
            go_wp2_with fail
            refine (CPY.out w11 (T.out.next H11.out)).mono ?_
            rintro e w12 ⟨rfl, hb⟩
            have H12 := Lib.hid (Nx.trans H11.out hb)
            clear hb H11
            go_wp2
            all_goals go_ret
            all_goals exact ⟨rfl, H12.out⟩
          · go_enter Tryd.func6, Tryd.ntmps6
            go_wp2_with fail
            refine LV.out.mono ?_
            rintro e w0 ⟨rfl, hb⟩
            have H0 := Lib.hid hb
            clear hb LV
            rw [g1] at WST
            rw [g2] at WTU
            clear g1 g2
            go_wp2_with fail
            refine (WST.out w0).mono ?_
            rintro e w1 ⟨rfl, hb⟩
            have H1 := Lib.hid (Nx.trans H0.out hb)
            clear hb H0
            go_wp2_with fail
            refine (WTU.out w1).mono ?_
            rintro e w2 ⟨rfl, hb⟩
            have H2 := Lib.hid (Nx.trans H1.out hb)
            clear hb H1
            clear WST WTU WSU
            go_wp2_with fail
            refine (X1.out w2).mono ?_
            rintro e w3 ⟨rfl, hb⟩
            have H3 := Lib.hid (Nx.trans H2.out hb)
            clear hb H2
            go_wp2_with fail
            refine (X2.out w3).mono ?_
            rintro e w4 ⟨rfl, hb⟩
            have H4 := Lib.hid (Nx.trans H3.out hb)
            clear hb H3
            go_wp2_with fail
            refine (CK0.out w4).mono ?_
            rintro e w5 ⟨rfl, hb⟩
            have H5 := Lib.hid (Nx.trans H4.out hb)
            clear hb H4
            go_wp2_with fail
            refine (NM.out w5).mono ?_
            rintro e w6 ⟨rfl, hb⟩
            have H6 := Lib.hid (Nx.trans H5.out hb)
            clear hb H5
            go_wp2_with fail
            refine (WN.out w6).mono ?_
            rintro e w7 ⟨rfl, hb⟩
            have H7 := Lib.hid (Nx.trans H6.out hb)
            clear hb H6
            go_wp2_with fail
            refine (WSS.out w7).mono ?_
            rintro e w8 ⟨rfl, hb⟩
            have H8 := Lib.hid (Nx.trans H7.out hb)
            clear hb H7
            go_wp2_with fail
            refine (CPY.out w8 (T.out.next H8.out)).mono ?_
            rintro e w9 ⟨rfl, hb⟩
            have H9 := Lib.hid (Nx.trans H8.out hb)
            clear hb H8
            go_wp2_with fail
            refine (Y1.out w9).mono ?_
            rintro e w10 ⟨rfl, hb⟩
            have H10 := Lib.hid (Nx.trans H9.out hb)
            clear hb H9
            go_wp2_with fail
            refine (Y2.out w10).mono ?_
            rintro e w11 ⟨rfl, hb⟩
            have H11 := Lib.hid (Nx.trans H10.out hb)
            clear hb H10
            go_wp2_with fail
            refine (Y3.out w11).mono ?_
            rintro e w12 ⟨rfl, hb⟩
            have H12 := Lib.hid (Nx.trans H11.out hb)
            clear hb H11
            go_wp2_with fail
            refine (CPY.out w12 (T.out.next H12.out)).mono ?_
            rintro e w13 ⟨rfl, hb⟩
            have H13 := Lib.hid (Nx.trans H12.out hb)
            clear hb H12
            go_wp2
            all_goals go_ret
            all_goals exact ⟨rfl, H13.out⟩
          · go_enter Tryd.func6, Tryd.ntmps6
            go_wp2_with fail
            refine LV.out.mono ?_
            rintro e w0 ⟨rfl, hb⟩
            have H0 := Lib.hid hb
            clear hb LV
            rw [g1] at WST
            rw [g2] at WTU
            rw [g3] at WSU
            clear g1 g2 g3
            go_wp2_with fail
            refine (WST.out w0).mono ?_
            rintro e w1 ⟨rfl, hb⟩
            have H1 := Lib.hid (Nx.trans H0.out hb)
            clear hb H0
            go_wp2_with fail
            refine (WTU.out w1).mono ?_
            rintro e w2 ⟨rfl, hb⟩
            have H2 := Lib.hid (Nx.trans H1.out hb)
            clear hb H1
            go_wp2_with fail
            refine (WSU.out w2).mono ?_
            rintro e w3 ⟨rfl, hb⟩
            have H3 := Lib.hid (Nx.trans H2.out hb)
            clear hb H2
            clear WST WTU WSU
            go_wp2_with fail
            refine (X1.out w3).mono ?_
            rintro e w4 ⟨rfl, hb⟩
            have H4 := Lib.hid (Nx.trans H3.out hb)
            clear hb H3
            go_wp2_with fail
            refine (X2.out w4).mono ?_
            rintro e w5 ⟨rfl, hb⟩
            have H5 := Lib.hid (Nx.trans H4.out hb)
            clear hb H4
            go_wp2_with fail
            refine (CK0.out w5).mono ?_
            rintro e w6 ⟨rfl, hb⟩
            have H6 := Lib.hid (Nx.trans H5.out hb)
            clear hb H5
            go_wp2_with fail
            refine (NM.out w6).mono ?_
            rintro e w7 ⟨rfl, hb⟩
            have H7 := Lib.hid (Nx.trans H6.out hb)
            clear hb H6
            go_wp2_with fail
            refine (WN.out w7).mono ?_
            rintro e w8 ⟨rfl, hb⟩
            have H8 := Lib.hid (Nx.trans H7.out hb)
            clear hb H7
            go_wp2_with fail
            refine (WSS.out w8).mono ?_
            rintro e w9 ⟨rfl, hb⟩
            have H9 := Lib.hid (Nx.trans H8.out hb)
            clear hb H8
            go_wp2_with fail
            refine (CPY.out w9 (T.out.next H9.out)).mono ?_
            rintro e w10 ⟨rfl, hb⟩
            have H10 := Lib.hid (Nx.trans H9.out hb)
            clear hb H9
            go_wp2_with fail
            refine (Y1.out w10).mono ?_
            rintro e w11 ⟨rfl, hb⟩
            have H11 := Lib.hid (Nx.trans H10.out hb)
            clear hb H10
            go_wp2_with fail
            refine (Y2.out w11).mono ?_
            rintro e w12 ⟨rfl, hb⟩
            have H12 := Lib.hid (Nx.trans H11.out hb)
            clear hb H11
            go_wp2_with fail
            refine (Y3.out w12).mono ?_
            rintro e w13 ⟨rfl, hb⟩
            have H13 := Lib.hid (Nx.trans H12.out hb)
            clear hb H12
            go_wp2_with fail
            refine (CPY.out w13 (T.out.next H13.out)).mono ?_
            rintro e w14 ⟨rfl, hb⟩
            have H14 := Lib.hid (Nx.trans H13.out hb)
            clear hb H13
            go_wp2
            all_goals go_ret
            all_goals exact ⟨rfl, H14.out⟩
    · have F3 := Lib.hid f3
      have F4 := Lib.hid f4
      clear f3 f4
      generalize S lf = sf at *
      generalize S s = ss at *
      rcases hcopy with ⟨e, c1, c2⟩ | ⟨c, c1, c2, c3, c4, c5, c6⟩
      · simp only [c1] at CPY
        rw [S_nil] at CPY
        have CPY := Lib.hid CPY
        have c3 : (e != 0) = true := by rcases c2 with rfl | rfl <;> rfl
        clear c1 c2
        generalize S le = sen at *
        rcases hfirst with g1 | ⟨g1, g2⟩ | ⟨g1, g2, g3⟩
        · go_enter Tryd.func6, Tryd.ntmps6
          go_wp2_with fail
          refine LV.out.mono ?_
          rintro e w0 ⟨rfl, hb⟩
          have H0 := Lib.hid hb
          clear hb LV
          rw [g1] at WST
          clear g1
          go_wp2_with fail
          refine (WST.out w0).mono ?_
          rintro e w1 ⟨rfl, hb⟩
          have H1 := Lib.hid (Nx.trans H0.out hb)
          clear hb H0
          clear WST WTU WSU
          go_wp2_with fail
          refine (X1.out w1).mono ?_
          rintro e w2 ⟨rfl, hb⟩
          have H2 := Lib.hid (Nx.trans H1.out hb)
          clear hb H1
          go_wp2_with fail
          refine (X2.out w2).mono ?_
          rintro e w3 ⟨rfl, hb⟩
          have H3 := Lib.hid (Nx.trans H2.out hb)
          clear hb H2
          go_wp2_with fail
          refine (CK0.out w3).mono ?_
          rintro e w4 ⟨rfl, hb⟩
          have H4 := Lib.hid (Nx.trans H3.out hb)
          clear hb H3
          go_wp2_with fail
          refine (F3.out w4).mono ?_
          rintro e w5 ⟨rfl, hb⟩
          have H5 := Lib.hid (Nx.trans H4.out hb)
          clear hb H4
          go_wp2_with fail
          refine (F4.out w5).mono ?_
          rintro e w6 ⟨rfl, hb⟩
          have H6 := Lib.hid (Nx.trans H5.out hb)
          clear hb H5
          go_wp2_with fail
          refine (NM.out w6).mono ?_
          rintro e w7 ⟨rfl, hb⟩
          have H7 := Lib.hid (Nx.trans H6.out hb)
          clear hb H6
          go_wp2_with fail
          refine (WN.out w7).mono ?_
          rintro e w8 ⟨rfl, hb⟩
          have H8 := Lib.hid (Nx.trans H7.out hb)
          clear hb H7
          go_wp2_with fail
          refine (WSS.out w8).mono ?_
          rintro e w9 ⟨rfl, hb⟩
          have H9 := Lib.hid (Nx.trans H8.out hb)
          clear hb H8
          go_wp2_with fail
          refine (CPY.out w9 (T.out.next H9.out)).mono ?_
          rintro e w10 ⟨rfl, hb⟩
          have H10 := Lib.hid (Nx.trans H9.out hb)
          clear hb H9
          go_wp2
          all_goals go_ret
          all_goals exact ⟨rfl, H10.out⟩
        · go_enter Tryd.func6, Tryd.ntmps6
          go_wp2_with fail
          refine LV.out.mono ?_
          rintro e w0 ⟨rfl, hb⟩
          have H0 := Lib.hid hb
          clear hb LV
          rw [g1] at WST
          rw [g2] at WTU
          clear g1 g2
          go_wp2_with fail
          refine (WST.out w0).mono ?_
          rintro e w1 ⟨rfl, hb⟩
          have H1 := Lib.hid (Nx.trans H0.out hb)
          clear hb H0
          go_wp2_with fail
          refine (WTU.out w1).mono ?_
          rintro e w2 ⟨rfl, hb⟩
          have H2 := Lib.hid (Nx.trans H1.out hb)
          clear hb H1
          clear WST WTU WSU
          go_wp2_with fail
          refine (X1.out w2).mono ?_
          rintro e w3 ⟨rfl, hb⟩
          have H3 := Lib.hid (Nx.trans H2.out hb)
          clear hb H2
          go_wp2_with fail
          refine (X2.out w3).mono ?_
          rintro e w4 ⟨rfl, hb⟩
          have H4 := Lib.hid (Nx.trans H3.out hb)
          clear hb H3
          go_wp2_with fail
          refine (CK0.out w4).mono ?_
          rintro e w5 ⟨rfl, hb⟩
          have H5 := Lib.hid (Nx.trans H4.out hb)
          clear hb H4
          go_wp2_with fail
          refine (F3.out w5).mono ?_
          rintro e w6 ⟨rfl, hb⟩
          have H6 := Lib.hid (Nx.trans H5.out hb)
          clear hb H5
          go_wp2_with fail
          refine (F4.out w6).mono ?_
          rintro e w7 ⟨rfl, hb⟩
          have H7 := Lib.hid (Nx.trans H6.out hb)
          clear hb H6
          go_wp2_with fail
          refine (NM.out w7).mono ?_
          rintro e w8 ⟨rfl, hb⟩
          have H8 := Lib.hid (Nx.trans H7.out hb)
          clear hb H7
          go_wp2_with fail
          refine (WN.out w8).mono ?_
          rintro e w9 ⟨rfl, hb⟩
          have H9 := Lib.hid (Nx.trans H8.out hb)
          clear hb H8
          go_wp2_with fail
          refine (WSS.out w9).mono ?_
          rintro e w10 ⟨rfl, hb⟩
          have H10 := Lib.hid (Nx.trans H9.out hb)
          clear hb H9
          go_wp2_with fail
          refine (CPY.out w10 (T.out.next H10.out)).mono ?_
          rintro e w11 ⟨rfl, hb⟩
          have H11 := Lib.hid (Nx.trans H10.out hb)
          clear hb H10
          go_wp2
          all_goals go_ret
          all_goals exact ⟨rfl, H11.out⟩
        · go_enter Tryd.func6, Tryd.ntmps6
          go_wp2_with fail
          refine LV.out.mono ?_
          rintro e w0 ⟨rfl, hb⟩
          have H0 := Lib.hid hb
          clear hb LV
          rw [g1] at WST
          rw [g2] at WTU
          rw [g3] at WSU
          clear g1 g2 g3
          go_wp2_with fail
          refine (WST.out w0).mono ?_
          rintro e w1 ⟨rfl, hb⟩
          have H1 := Lib.hid (Nx.trans H0.out hb)
          clear hb H0
          go_wp2_with fail
          refine (WTU.out w1).mono ?_
          rintro e w2 ⟨rfl, hb⟩
          have H2 := Lib.hid (Nx.trans H1.out hb)
          clear hb H1
          go_wp2_with fail
          refine (WSU.out w2).mono ?_
          rintro e w3 ⟨rfl, hb⟩
          have H3 := Lib.hid (Nx.trans H2.out hb)
          clear hb H2
          clear WST WTU WSU
          go_wp2_with fail
          refine (X1.out w3).mono ?_
          rintro e w4 ⟨rfl, hb⟩
          have H4 := Lib.hid (Nx.trans H3.out hb)
          clear hb H3
          go_wp2_with fail
          refine (X2.out w4).mono ?_
          rintro e w5 ⟨rfl, hb⟩
          have H5 := Lib.hid (Nx.trans H4.out hb)
          clear hb H4
          go_wp2_with fail
          refine (CK0.out w5).mono ?_
          rintro e w6 ⟨rfl, hb⟩
          have H6 := Lib.hid (Nx.trans H5.out hb)
          clear hb H5
          go_wp2_with fail
          refine (F3.out w6).mono ?_
          rintro e w7 ⟨rfl, hb⟩
          have H7 := Lib.hid (Nx.trans H6.out hb)
          clear hb H6
          go_wp2_with fail
          refine (F4.out w7).mono ?_
          rintro e w8 ⟨rfl, hb⟩
          have H8 := Lib.hid (Nx.trans H7.out hb)
          clear hb H7
          go_wp2_with fail
          refine (NM.out w8).mono ?_
          rintro e w9 ⟨rfl, hb⟩
          have H9 := Lib.hid (Nx.trans H8.out hb)
          clear hb H8
          go_wp2_with fail
          refine (WN.out w9).mono ?_
          rintro e w10 ⟨rfl, hb⟩
          have H10 := Lib.hid (Nx.trans H9.out hb)
          clear hb H9
          go_wp2_with fail
          refine (WSS.out w10).mono ?_
          rintro e w11 ⟨rfl, hb⟩
          have H11 := Lib.hid (Nx.trans H10.out hb)
          clear hb H10
          go_wp2_with fail
          refine (CPY.out w11 (T.out.next H11.out)).mono ?_
          rintro e w12 ⟨rfl, hb⟩
          have H12 := Lib.hid (Nx.trans H11.out hb)
          clear hb H11
          go_wp2
          all_goals go_ret
          all_goals exact ⟨rfl, H12.out⟩
      · simp only [c1] at CPY
        have CPY := Lib.hid CPY
        have tc := S_toList c
        have te2 := S_toList (ending (base c))
        have c7 : (c != s) = true := by rw [bne, c5]; rfl
        have Y1 := Lib.hid c2
        have Y2 := Lib.hid c3
        have Y3 := Lib.hid c4
        clear c1 c2 c3 c4
        generalize S (base c) = scb at *
        generalize S (stem (base c)) = scs at *
        generalize S (ending (base c)) = sce at *
        generalize S c = sc at *
        rcases c6 with c6 | ⟨c6, c8⟩
        · subst c6
          rcases hfirst with g1 | ⟨g1, g2⟩ | ⟨g1, g2, g3⟩
          · go_enter Tryd.func6, Tryd.ntmps6
            go_wp2_with fail
            refine LV.out.mono ?_
            rintro e w0 ⟨rfl, hb⟩
            have H0 := Lib.hid hb
            clear hb LV
            rw [g1] at WST
            clear g1
            go_wp2_with fail
            refine (WST.out w0).mono ?_
            rintro e w1 ⟨rfl, hb⟩
            have H1 := Lib.hid (Nx.trans H0.out hb)
            clear hb H0
            clear WST WTU WSU
            go_wp2_with fail
            refine (X1.out w1).mono ?_
            rintro e w2 ⟨rfl, hb⟩
            have H2 := Lib.hid (Nx.trans H1.out hb)
            clear hb H1
            go_wp2_with fail
            refine (X2.out w2).mono ?_
            rintro e w3 ⟨rfl, hb⟩
            have H3 := Lib.hid (Nx.trans H2.out hb)
            clear hb H2
            go_wp2_with fail
            refine (CK0.out w3).mono ?_
            rintro e w4 ⟨rfl, hb⟩
            have H4 := Lib.hid (Nx.trans H3.out hb)
            clear hb H3
            go_wp2_with fail
            refine (F3.out w4).mono ?_
            rintro e w5 ⟨rfl, hb⟩
            have H5 := Lib.hid (Nx.trans H4.out hb)
            clear hb H4
            go_wp2_with fail
            refine (F4.out w5).mono ?_
            rintro e w6 ⟨rfl, hb⟩
            have H6 := Lib.hid (Nx.trans H5.out hb)
            clear hb H5
            go_wp2_with fail
            refine (NM.out w6).mono ?_
            rintro e w7 ⟨rfl, hb⟩
            have H7 := Lib.hid (Nx.trans H6.out hb)
            clear hb H6
            go_wp2_with fail
            refine (WN.out w7).mono ?_
            rintro e w8 ⟨rfl, hb⟩
            have H8 := Lib.hid (Nx.trans H7.out hb)
            clear hb H7
            go_wp2_with fail
            refine (WSS.out w8).mono ?_
            rintro e w9 ⟨rfl, hb⟩
            have H9 := Lib.hid (Nx.trans H8.out hb)
            clear hb H8
            go_wp2_with fail
            refine (CPY.out w9 (T.out.next H9.out)).mono ?_
            rintro e w10 ⟨rfl, hb⟩
            have H10 := Lib.hid (Nx.trans H9.out hb)
            clear hb H9
            go_wp2_with fail
            refine (Y1.out w10).mono ?_
            rintro e w11 ⟨rfl, hb⟩
            have H11 := Lib.hid (Nx.trans H10.out hb)
            clear hb H10
            go_wp2_with fail
            refine (Y2.out w11).mono ?_
            rintro e w12 ⟨rfl, hb⟩
            have H12 := Lib.hid (Nx.trans H11.out hb)
            clear hb H11
            go_wp2_with fail
            refine (Y3.out w12).mono ?_
            rintro e w13 ⟨rfl, hb⟩
            have H13 := Lib.hid (Nx.trans H12.out hb)
            clear hb H12
            go_wp2_with fail
            refine (CPY.out w13 (T.out.next H13.out)).mono ?_
            rintro e w14 ⟨rfl, hb⟩
            have H14 := Lib.hid (Nx.trans H13.out hb)
            clear hb H13
            go_wp2
            all_goals go_ret
            all_goals exact ⟨rfl, H14.out⟩
          · go_enter Tryd.func6, Tryd.ntmps6
            go_wp2_with fail
            refine LV.out.mono ?_
            rintro e w0 ⟨rfl, hb⟩
            have H0 := Lib.hid hb
            clear hb LV
            rw [g1] at WST
            rw [g2] at WTU
            clear g1 g2
            go_wp2_with fail
            refine (WST.out w0).mono ?_
            rintro e w1 ⟨rfl, hb⟩
            have H1 := Lib.hid (Nx.trans H0.out hb)
            clear hb H0
            go_wp2_with fail
            refine (WTU.out w1).mono ?_
            rintro e w2 ⟨rfl, hb⟩
            have H2 := Lib.hid (Nx.trans H1.out hb)
            clear hb H1
            clear WST WTU WSU
            go_wp2_with fail
            refine (X1.out w2).mono ?_
            rintro e w3 ⟨rfl, hb⟩
            have H3 := Lib.hid (Nx.trans H2.out hb)
            clear hb H2
            go_wp2_with fail
            refine (X2.out w3).mono ?_
            rintro e w4 ⟨rfl, hb⟩
            have H4 := Lib.hid (Nx.trans H3.out hb)
            clear hb H3
            go_wp2_with fail
            refine (CK0.out w4).mono ?_
            rintro e w5 ⟨rfl, hb⟩
            have H5 := Lib.hid (Nx.trans H4.out hb)
            clear hb H4
            go_wp2_with fail
            refine (F3.out w5).mono ?_
            rintro e w6 ⟨rfl, hb⟩
            have H6 := Lib.hid (Nx.trans H5.out hb)
            clear hb H5
            go_wp2_with fail
            refine (F4.out w6).mono ?_
            rintro e w7 ⟨rfl, hb⟩
            have H7 := Lib.hid (Nx.trans H6.out hb)
            clear hb H6
            go_wp2_with fail
            refine (NM.out w7).mono ?_
            rintro e w8 ⟨rfl, hb⟩
            have H8 := Lib.hid (Nx.trans H7.out hb)
            clear hb H7
            go_wp2_with fail
            refine (WN.out w8).mono ?_
            rintro e w9 ⟨rfl, hb⟩
            have H9 := Lib.hid (Nx.trans H8.out hb)
            clear hb H8
            go_wp2_with fail
            refine (WSS.out w9).mono ?_
            rintro e w10 ⟨rfl, hb⟩
            have H10 := Lib.hid (Nx.trans H9.out hb)
            clear hb H9
            go_wp2_with fail
            refine (CPY.out w10 (T.out.next H10.out)).mono ?_
            rintro e w11 ⟨rfl, hb⟩
            have H11 := Lib.hid (Nx.trans H10.out hb)
            clear hb H10
            go_wp2_with fail
            refine (Y1.out w11).mono ?_
            rintro e w12 ⟨rfl, hb⟩
            have H12 := Lib.hid (Nx.trans H11.out hb)
            clear hb H11
            go_wp2_with fail
            refine (Y2.out w12).mono ?_
            rintro e w13 ⟨rfl, hb⟩
            have H13 := Lib.hid (Nx.trans H12.out hb)
            clear hb H12
            go_wp2_with fail
            refine (Y3.out w13).mono ?_
            rintro e w14 ⟨rfl, hb⟩
            have H14 := Lib.hid (Nx.trans H13.out hb)
            clear hb H13
            go_wp2_with fail
            refine (CPY.out w14 (T.out.next H14.out)).mono ?_
            rintro e w15 ⟨rfl, hb⟩
            have H15 := Lib.hid (Nx.trans H14.out hb)
            clear hb H14
            go_wp2
            all_goals go_ret
            all_goals exact ⟨rfl, H15.out⟩
          · go_enter Tryd.func6, Tryd.ntmps6
            go_wp2_with fail
            refine LV.out.mono ?_
            rintro e w0 ⟨rfl, hb⟩
            have H0 := Lib.hid hb
            clear hb LV
            rw [g1] at WST
            rw [g2] at WTU
            rw [g3] at WSU
            clear g1 g2 g3
            go_wp2_with fail
            refine (WST.out w0).mono ?_
            rintro e w1 ⟨rfl, hb⟩
            have H1 := Lib.hid (Nx.trans H0.out hb)
            clear hb H0
            go_wp2_with fail
            refine (WTU.out w1).mono ?_
            rintro e w2 ⟨rfl, hb⟩
            have H2 := Lib.hid (Nx.trans H1.out hb)
            clear hb H1
            go_wp2_with fail
            refine (WSU.out w2).mono ?_
            rintro e w3 ⟨rfl, hb⟩
            have H3 := Lib.hid (Nx.trans H2.out hb)
            clear hb H2
            clear WST WTU WSU
            go_wp2_with fail
            refine (X1.out w3).mono ?_
            rintro e w4 ⟨rfl, hb⟩
            have H4 := Lib.hid (Nx.trans H3.out hb)
            clear hb H3
            go_wp2_with fail
            refine (X2.out w4).mono ?_
            rintro e w5 ⟨rfl, hb⟩
            have H5 := Lib.hid (Nx.trans H4.out hb)
            clear hb H4
            go_wp2_with fail
            refine (CK0.out w5).mono ?_
            rintro e w6 ⟨rfl, hb⟩
            have H6 := Lib.hid (Nx.trans H5.out hb)
            clear hb H5
            go_wp2_with fail
            refine (F3.out w6).mono ?_
            rintro e w7 ⟨rfl, hb⟩
            have H7 := Lib.hid (Nx.trans H6.out hb)
            clear hb H6
            go_wp2_with fail
            refine (F4.out w7).mono ?_
            rintro e w8 ⟨rfl, hb⟩
            have H8 := Lib.hid (Nx.trans H7.out hb)
            clear hb H7
            go_wp2_with fail
            refine (NM.out w8).mono ?_
            rintro e w9 ⟨rfl, hb⟩
            have H9 := Lib.hid (Nx.trans H8.out hb)
            clear hb H8
            go_wp2_with fail
            refine (WN.out w9).mono ?_
            rintro e w10 ⟨rfl, hb⟩
            have H10 := Lib.hid (Nx.trans H9.out hb)
            clear hb H9
            go_wp2_with fail
            refine (WSS.out w10).mono ?_
            rintro e w11 ⟨rfl, hb⟩
            have H11 := Lib.hid (Nx.trans H10.out hb)
            clear hb H10
            go_wp2_with fail
            refine (CPY.out w11 (T.out.next H11.out)).mono ?_
            rintro e w12 ⟨rfl, hb⟩
            have H12 := Lib.hid (Nx.trans H11.out hb)
            clear hb H11
            go_wp2_with fail
            refine (Y1.out w12).mono ?_
            rintro e w13 ⟨rfl, hb⟩
            have H13 := Lib.hid (Nx.trans H12.out hb)
            clear hb H12
            go_wp2_with fail
            refine (Y2.out w13).mono ?_
            rintro e w14 ⟨rfl, hb⟩
            have H14 := Lib.hid (Nx.trans H13.out hb)
            clear hb H13
            go_wp2_with fail
            refine (Y3.out w14).mono ?_
            rintro e w15 ⟨rfl, hb⟩
            have H15 := Lib.hid (Nx.trans H14.out hb)
            clear hb H14
            go_wp2_with fail
            refine (CPY.out w15 (T.out.next H15.out)).mono ?_
            rintro e w16 ⟨rfl, hb⟩
            have H16 := Lib.hid (Nx.trans H15.out hb)
            clear hb H15
            go_wp2
            all_goals go_ret
            all_goals exact ⟨rfl, H16.out⟩
        · rw [c8] at te2
          clear c8
          generalize S le = sen at *
          rcases hfirst with g1 | ⟨g1, g2⟩ | ⟨g1, g2, g3⟩
          · go_enter Tryd.func6, Tryd.ntmps6
            go_wp2_with fail
            refine LV.out.mono ?_
            rintro e w0 ⟨rfl, hb⟩
            have H0 := Lib.hid hb
            clear hb LV
            rw [g1] at WST
            clear g1
            go_wp2_with fail
            refine (WST.out w0).mono ?_
            rintro e w1 ⟨rfl, hb⟩
            have H1 := Lib.hid (Nx.trans H0.out hb)
            clear hb H0
            clear WST WTU WSU
            go_wp2_with fail
            refine (X1.out w1).mono ?_
            rintro e w2 ⟨rfl, hb⟩
            have H2 := Lib.hid (Nx.trans H1.out hb)
            clear hb H1
            go_wp2_with fail
            refine (X2.out w2).mono ?_
            rintro e w3 ⟨rfl, hb⟩
            have H3 := Lib.hid (Nx.trans H2.out hb)
            clear hb H2
            go_wp2_with fail
            refine (CK0.out w3).mono ?_
            rintro e w4 ⟨rfl, hb⟩
            have H4 := Lib.hid (Nx.trans H3.out hb)
            clear hb H3
            go_wp2_with fail
            refine (F3.out w4).mono ?_
            rintro e w5 ⟨rfl, hb⟩
            have H5 := Lib.hid (Nx.trans H4.out hb)
            clear hb H4
            go_wp2_with fail
            refine (F4.out w5).mono ?_
            rintro e w6 ⟨rfl, hb⟩
            have H6 := Lib.hid (Nx.trans H5.out hb)
            clear hb H5
            go_wp2_with fail
            refine (NM.out w6).mono ?_
            rintro e w7 ⟨rfl, hb⟩
            have H7 := Lib.hid (Nx.trans H6.out hb)
            clear hb H6
            go_wp2_with fail
            refine (WN.out w7).mono ?_
            rintro e w8 ⟨rfl, hb⟩
            have H8 := Lib.hid (Nx.trans H7.out hb)
            clear hb H7
            go_wp2_with fail
            refine (WSS.out w8).mono ?_
            rintro e w9 ⟨rfl, hb⟩
            have H9 := Lib.hid (Nx.trans H8.out hb)
            clear hb H8
            go_wp2_with fail
            refine (CPY.out w9 (T.out.next H9.out)).mono ?_
            rintro e w10 ⟨rfl, hb⟩
            have H10 := Lib.hid (Nx.trans H9.out hb)
            clear hb H9
            go_wp2_with fail
            refine (Y1.out w10).mono ?_
            rintro e w11 ⟨rfl, hb⟩
            have H11 := Lib.hid (Nx.trans H10.out hb)
            clear hb H10
            go_wp2_with fail
            refine (Y2.out w11).mono ?_
            rintro e w12 ⟨rfl, hb⟩
            have H12 := Lib.hid (Nx.trans H11.out hb)
            clear hb H11
            go_wp2_with fail
            refine (Y3.out w12).mono ?_
            rintro e w13 ⟨rfl, hb⟩
            have H13 := Lib.hid (Nx.trans H12.out hb)
            clear hb H12
            go_wp2_with fail
            refine (CPY.out w13 (T.out.next H13.out)).mono ?_
            rintro e w14 ⟨rfl, hb⟩
            have H14 := Lib.hid (Nx.trans H13.out hb)
            clear hb H13
            go_wp2
            all_goals go_ret
            all_goals exact ⟨rfl, H14.out⟩
          · go_enter Tryd.func6, Tryd.ntmps6
            go_wp2_with fail
            refine LV.out.mono ?_
            rintro e w0 ⟨rfl, hb⟩
            have H0 := Lib.hid hb
            clear hb LV
            rw [g1] at WST
            rw [g2] at WTU
            clear g1 g2
            go_wp2_with fail
            refine (WST.out w0).mono ?_
            rintro e w1 ⟨rfl, hb⟩
            have H1 := Lib.hid (Nx.trans H0.out hb)
            clear hb H0
            go_wp2_with fail
            refine (WTU.out w1).mono ?_
            rintro e w2 ⟨rfl, hb⟩
            have H2 := Lib.hid (Nx.trans H1.out hb)
            clear hb H1
            clear WST WTU WSU
            go_wp2_with fail
            refine (X1.out w2).mono ?_
            rintro e w3 ⟨rfl, hb⟩
            have H3 := Lib.hid (Nx.trans H2.out hb)
            clear hb H2
            go_wp2_with fail
            refine (X2.out w3).mono ?_
            rintro e w4 ⟨rfl, hb⟩
            have H4 := Lib.hid (Nx.trans H3.out hb)
            clear hb H3
            go_wp2_with fail
            refine (CK0.out w4).mono ?_
            rintro e w5 ⟨rfl, hb⟩
            have H5 := Lib.hid (Nx.trans H4.out hb)
            clear hb H4
            go_wp2_with fail
            refine (F3.out w5).mono ?_
            rintro e w6 ⟨rfl, hb⟩
            have H6 := Lib.hid (Nx.trans H5.out hb)
            clear hb H5
            go_wp2_with fail
            refine (F4.out w6).mono ?_
            rintro e w7 ⟨rfl, hb⟩
            have H7 := Lib.hid (Nx.trans H6.out hb)
            clear hb H6
            go_wp2_with fail
            refine (NM.out w7).mono ?_
            rintro e w8 ⟨rfl, hb⟩
            have H8 := Lib.hid (Nx.trans H7.out hb)
            clear hb H7
            go_wp2_with fail
            refine (WN.out w8).mono ?_
            rintro e w9 ⟨rfl, hb⟩
            have H9 := Lib.hid (Nx.trans H8.out hb)
            clear hb H8
            go_wp2_with fail
            refine (WSS.out w9).mono ?_
            rintro e w10 ⟨rfl, hb⟩
            have H10 := Lib.hid (Nx.trans H9.out hb)
            clear hb H9
            go_wp2_with fail
            refine (CPY.out w10 (T.out.next H10.out)).mono ?_
            rintro e w11 ⟨rfl, hb⟩
            have H11 := Lib.hid (Nx.trans H10.out hb)
            clear hb H10
            go_wp2_with fail
            refine (Y1.out w11).mono ?_
            rintro e w12 ⟨rfl, hb⟩
            have H12 := Lib.hid (Nx.trans H11.out hb)
            clear hb H11
            go_wp2_with fail
            refine (Y2.out w12).mono ?_
            rintro e w13 ⟨rfl, hb⟩
            have H13 := Lib.hid (Nx.trans H12.out hb)
            clear hb H12
            go_wp2_with fail
            refine (Y3.out w13).mono ?_
            rintro e w14 ⟨rfl, hb⟩
            have H14 := Lib.hid (Nx.trans H13.out hb)
            clear hb H13
            go_wp2_with fail
            refine (CPY.out w14 (T.out.next H14.out)).mono ?_
            rintro e w15 ⟨rfl, hb⟩
            have H15 := Lib.hid (Nx.trans H14.out hb)
            clear hb H14
            go_wp2
            all_goals go_ret
            all_goals exact ⟨rfl, H15.out⟩
          · go_enter Tryd.func6, Tryd.ntmps6
            go_wp2_with fail
            refine LV.out.mono ?_
            rintro e w0 ⟨rfl, hb⟩
            have H0 := Lib.hid hb
            clear hb LV
            rw [g1] at WST
            rw [g2] at WTU
            rw [g3] at WSU
            clear g1 g2 g3
            go_wp2_with fail
            refine (WST.out w0).mono ?_
            rintro e w1 ⟨rfl, hb⟩
            have H1 := Lib.hid (Nx.trans H0.out hb)
            clear hb H0
            go_wp2_with fail
            refine (WTU.out w1).mono ?_
            rintro e w2 ⟨rfl, hb⟩
            have H2 := Lib.hid (Nx.trans H1.out hb)
            clear hb H1
            go_wp2_with fail
            refine (WSU.out w2).mono ?_
            rintro e w3 ⟨rfl, hb⟩
            have H3 := Lib.hid (Nx.trans H2.out hb)
            clear hb H2
            clear WST WTU WSU
            go_wp2_with fail
            refine (X1.out w3).mono ?_
            rintro e w4 ⟨rfl, hb⟩
            have H4 := Lib.hid (Nx.trans H3.out hb)
            clear hb H3
            go_wp2_with fail
            refine (X2.out w4).mono ?_
            rintro e w5 ⟨rfl, hb⟩
            have H5 := Lib.hid (Nx.trans H4.out hb)
            clear hb H4
            go_wp2_with fail
            refine (CK0.out w5).mono ?_
            rintro e w6 ⟨rfl, hb⟩
            have H6 := Lib.hid (Nx.trans H5.out hb)
            clear hb H5
            go_wp2_with fail
            refine (F3.out w6).mono ?_
            rintro e w7 ⟨rfl, hb⟩
            have H7 := Lib.hid (Nx.trans H6.out hb)
            clear hb H6
            go_wp2_with fail
            refine (F4.out w7).mono ?_
            rintro e w8 ⟨rfl, hb⟩
            have H8 := Lib.hid (Nx.trans H7.out hb)
            clear hb H7
            go_wp2_with fail
            refine (NM.out w8).mono ?_
            rintro e w9 ⟨rfl, hb⟩
            have H9 := Lib.hid (Nx.trans H8.out hb)
            clear hb H8
            go_wp2_with fail
            refine (WN.out w9).mono ?_
            rintro e w10 ⟨rfl, hb⟩
            have H10 := Lib.hid (Nx.trans H9.out hb)
            clear hb H9
            go_wp2_with fail
            refine (WSS.out w10).mono ?_
            rintro e w11 ⟨rfl, hb⟩
            have H11 := Lib.hid (Nx.trans H10.out hb)
            clear hb H10
            go_wp2_with fail
            refine (CPY.out w11 (T.out.next H11.out)).mono ?_
            rintro e w12 ⟨rfl, hb⟩
            have H12 := Lib.hid (Nx.trans H11.out hb)
            clear hb H11
            go_wp2_with fail
            refine (Y1.out w12).mono ?_
            rintro e w13 ⟨rfl, hb⟩
            have H13 := Lib.hid (Nx.trans H12.out hb)
            clear hb H12
            go_wp2_with fail
            refine (Y2.out w13).mono ?_
            rintro e w14 ⟨rfl, hb⟩
            have H14 := Lib.hid (Nx.trans H13.out hb)
            clear hb H13
            go_wp2_with fail
            refine (Y3.out w14).mono ?_
            rintro e w15 ⟨rfl, hb⟩
            have H15 := Lib.hid (Nx.trans H14.out hb)
            clear hb H14
            go_wp2_with fail
            refine (CPY.out w15 (T.out.next H15.out)).mono ?_
            rintro e w16 ⟨rfl, hb⟩
            have H16 := Lib.hid (Nx.trans H15.out hb)
            clear hb H15
            go_wp2
            all_goals go_ret
            all_goals exact ⟨rfl, H16.out⟩

theorem parts_walk (w : World) (s t u : ByteArray) (d n : Int) (hs : s.size ≤ maxLen) (ht : t.size ≤ maxLen) (hu : u.size ≤ maxLen) (hd : -9223372036854775808 ≤ d ∧ d ≤ 9223372036854775807) (hn : -9223372036854775808 ≤ n ∧ n ≤ 9223372036854775807) (hT : Tab w) :
    Calls Tryd.prog 6 #[.string s, .string t, .string u, .int .i64 d, .int .i64 n] w fun e w' => e = .returned (.bool true) ∧ Nx w w' := by
  have h := parts_in w s.data.toList t.data.toList u.data.toList d n hs ht hu hT
  rwa [S_of, S_of, S_of] at h
end Go.Proofs.YtkffijgmcekboaaDoor

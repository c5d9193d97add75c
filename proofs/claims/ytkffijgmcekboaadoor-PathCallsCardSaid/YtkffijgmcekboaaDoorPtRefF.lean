/- The reference: Temp, Temped, Copy, number. -/
import Derived.Test.YtkffijgmcekboaaDoorPtRefE
namespace Go.Proofs.YtkffijgmcekboaaDoor
open Go.RowKit
open Go.Lib (decDigits)
set_option linter.unusedVariables false

theorem rtemp_any (w : World) (l : List UInt8) :
    Calls Tryd.prog 20 #[.string (S l)] w fun e w' => e = .returned (.tuple #[.string (S (tempR l).1), .int .i64 (tempR l).2]) ∧ Nx w w' := by
  have X := Lib.hid (rcheck_any w l)
  unfold tempR
  cases e1 : isPath l with
  | false =>
    have hb := chk_bne e1
    rw [if_neg (by decide)]
    clear e1
    simp only
    rw [S_nil]
    generalize chk l = v at *
    generalize S l = s at *
    go_enter Tryd.func20, Tryd.ntmps20
    go_wp2_with fail
    refine X.out.mono ?_
    rintro e w1 ⟨rfl, hb1⟩
    have H1 := Lib.hid hb1
    clear hb1 X
    go_wp2
    go_ret2
    exact ⟨rfl, H1.out⟩
  | true =>
    have h0 : chk l = 0 := chk_zero.2 e1
    rw [h0] at X
    rw [if_pos rfl]
    simp only
    have hl := (path_parts e1).len
    have hsz := S_size l
    have hx : (⟨#[46, 116, 109, 112, 47]⟩ : ByteArray) ++ S l = S (tempL ++ l) := by
      have : (⟨#[46, 116, 109, 112, 47]⟩ : ByteArray) = S tempL := rfl
      rw [this, S_append]
    have Hx := Lib.hid hx
    clear e1 h0 hx
    generalize S (tempL ++ l) = t at *
    generalize S l = s at *
    go_enter Tryd.func20, Tryd.ntmps20
    go_wp2_with fail
    refine X.out.mono ?_
    rintro e w1 ⟨rfl, hb1⟩
    have H1 := Lib.hid hb1
    clear hb1 X
    go_wp2
    go_ret2
    rw [← Hx.out]
    exact ⟨rfl, H1.out⟩

theorem temped_short {l : List UInt8} (h : l.length ≤ 5) : tempedR l = ([], false) := by
  unfold tempedR
  have : isPath (l.drop 5) = false := by
    rw [List.drop_eq_nil_of_le h]
    decide
  rw [this, Bool.and_false]
  rfl
theorem temped_long {l : List UInt8} (h : 5 < l.length) : tempedR l = if (l.take 5 == tempL) && isPath (l.drop 5) then (l.drop 5, true) else ([], false) := by
  unfold tempedR
  have : tempL.isPrefixOf l = (l.take 5 == tempL) := by
    rw [Bool.eq_iff_iff, List.isPrefixOf_iff_prefix, beq_iff_eq, List.prefix_iff_eq_take]
    exact ⟨fun h => h.symm, fun h => h.symm⟩
  rw [this]
theorem rtemped_any (w : World) (l : List UInt8) (hl : l.length ≤ 1000000) :
    Calls Tryd.prog 21 #[.string (S l)] w fun e w' => e = .returned (.tuple #[.string (S (tempedR l).1), .bool (tempedR l).2]) ∧ Nx w w' := by
  have hsz := S_size l
  by_cases h5 : l.length ≤ 5
  · rw [temped_short h5]
    simp only
    rw [S_nil]
    have i1 : (l.length : Int) ≤ 5 := by omega
    generalize S l = s at *
    generalize l.length = n at *
    go_enter Tryd.func21, Tryd.ntmps21
    go_wp2
    go_ret2
    exact ⟨rfl, Nx.refl _⟩
  · rw [temped_long (by omega)]
    have i1 : ¬ (l.length : Int) ≤ 5 := by omega
    have x1 : (S l).extract 0 5 = S (l.take 5) := by rw [S_extract]; simp
    have x2 : (S l).extract 5 l.length = S (l.drop 5) := by
      rw [S_extract]
      congr 1
      exact List.take_of_length_le (by rw [List.length_drop]; omega)
    have tt := S_toList (l.take 5)
    have Y := Lib.hid (fun W => rcheck_any W (l.drop 5))
    cases e1 : l.take 5 == tempL with
    | false =>
      have e2 : (l.take 5 != tempL) = true := by rw [bne, e1]; rfl
      rw [Bool.false_and, if_neg (by decide)]
      simp only
      rw [S_nil]
      unfold tempL at e1 e2
      generalize l.take 5 = tk at *
      generalize S tk = stk at *
      generalize S (l.drop 5) = sd at *
      generalize S l = s at *
      generalize l.length = n at *
      go_enter Tryd.func21, Tryd.ntmps21
      go_wp2
      go_ret2
      exact ⟨rfl, Nx.refl _⟩
    | true =>
      have e3 : l.take 5 = [46, 116, 109, 112, 47] := beq_iff_eq.1 e1
      rw [Bool.true_and]
      rw [e3] at x1 tt
      have e4 : S [46, 116, 109, 112, 47] = ⟨#[46, 116, 109, 112, 47]⟩ := rfl
      rw [e4] at x1
      clear e1 e3 e4 tt
      cases e2 : isPath (l.drop 5) with
      | false =>
        have hb := chk_bne e2
        rw [if_neg (by decide)]
        simp only
        rw [S_nil]
        clear e2
        generalize chk (l.drop 5) = v at *
        generalize S (l.drop 5) = sd at *
        generalize S l = s at *
        generalize l.length = n at *
        go_enter Tryd.func21, Tryd.ntmps21
        go_wp2_with fail
        refine (Y.out w).mono ?_
        rintro e w1 ⟨rfl, hb1⟩
        have H1 := Lib.hid hb1
        clear hb1 Y
        go_wp2
        go_ret2
        exact ⟨rfl, H1.out⟩
      | true =>
        rw [chk_zero.2 e2] at Y
        rw [if_pos rfl]
        simp only
        clear e2
        generalize S (l.drop 5) = sd at *
        generalize S l = s at *
        generalize l.length = n at *
        go_enter Tryd.func21, Tryd.ntmps21
        go_wp2_with fail
        refine (Y.out w).mono ?_
        rintro e w1 ⟨rfl, hb1⟩
        have H1 := Lib.hid hb1
        clear hb1 Y
        go_wp2
        go_ret2
        exact ⟨rfl, H1.out⟩

/-! ### Copy -/
set_option maxHeartbeats 1000000 in
theorem rcopy_any (w : World) (l : List UInt8) (d n : Int) :
    Calls Tryd.prog 18 #[.string (S l), .int .i64 d, .int .i64 n] w fun e w' => e = .returned (.tuple #[.string (S (copyR l d n).1), .int .i64 (copyR l d n).2]) ∧ Nx w w' := by
  have X := Lib.hid (rcheck_any w l)
  unfold copyR
  cases e1 : isPath l with
  | false =>
    have hb := chk_bne e1
    rw [if_pos (bne_iff_ne.1 hb)]
    clear e1
    simp only
    rw [S_nil]
    generalize chk l = v at *
    generalize S l = s at *
    go_enter Tryd.func18, Tryd.ntmps18
    go_wp2_with fail
    refine X.out.mono ?_
    rintro e w1 ⟨rfl, hb1⟩
    have H1 := Lib.hid hb1
    clear hb1 X
    go_wp2
    go_ret2
    exact ⟨rfl, H1.out⟩
  | true =>
    have h0 : chk l = 0 := chk_zero.2 e1
    rw [if_neg (by rw [h0]; simp)]
    rw [h0] at X
    by_cases hr : inRange d n
    · rw [if_neg (by simpa using hr)]
      obtain ⟨dn, rfl⟩ : ∃ dn : Nat, d = (dn : Int) := ⟨d.toNat, by unfold inRange at hr; omega⟩
      obtain ⟨nn, rfl⟩ : ∃ nn : Nat, n = (nn : Int) := ⟨n.toNat, by unfold inRange at hr; omega⟩
      unfold inRange at hr
      obtain ⟨i1, i2, i3, i4⟩ := hr
      rw [Int.toNat_natCast, Int.toNat_natCast]
      have hl := (path_parts e1).len
      have hbl := base_len l
      have hfl := folder_len l
      have hsl := stem_len (base l)
      have hel := ending_len (base l)
      have hml := mark_len (d := dn) (n := nn) (by omega) (by omega)
      have hcl := copyS_len e1 (d := dn) (n := nn) (by omega) (by omega)
      have SP := fun W => rsplit_any W l
      have EN := fun W => rend_any W l
      rw [pathOr_path e1] at SP EN
      have SP := Lib.hid SP
      have EN := Lib.hid EN
      have D1 := Lib.hid (fun W => rdigits_any W dn (by omega))
      have D2 := Lib.hid (fun W => rdigits_any W nn (by omega))
      have WI := Lib.hid (fun W => rjoined_any W (folder l) (stem (base l) ++ mark dn nn ++ ending (base l)) (by omega) (by omega))
      have hcs : joined (folder l) (stem (base l) ++ mark dn nn ++ ending (base l)) = copyS l dn nn := rfl
      rw [hcs] at WI
      have hx : S (stem (base l)) ++ ⟨#[46, 99]⟩ ++ S (decDigits dn) ++ ⟨#[45]⟩ ++ S (decDigits nn) ++ S (ending (base l)) = S (stem (base l) ++ mark dn nn ++ ending (base l)) := by
        have h1 : (⟨#[46, 99]⟩ : ByteArray) = S [46, 99] := rfl
        have h2 : (⟨#[45]⟩ : ByteArray) = S [45] := rfl
        rw [h1, h2, S_append, S_append, S_append, S_append, S_append]
        unfold mark
        simp
      rw [← hx] at WI
      have CK := Lib.hid (fun W => rcheck_any W (copyS l dn nn))
      have z1 := S_size (stem (base l))
      have z2 := S_size (decDigits dn)
      have z4 := S_size (decDigits nn)
      have z3 := S_size (ending (base l))
      have d1 := dec_len3 (n := dn) (by omega)
      have d2 := dec_len3 (n := nn) (by omega)
      have y1 : (S (stem (base l))).size ≤ 64 := by omega
      have y2 : (S (decDigits dn)).size ≤ 3 := by omega
      have y4 : (S (decDigits nn)).size ≤ 3 := by omega
      have y3 : (S (ending (base l))).size ≤ 64 := by omega
      clear hcs hx hcl hml hel hsl hfl hbl hl e1 h0 z1 z2 z3 z4 d1 d2
      generalize S (stem (base l)) = sst at *
      generalize S (ending (base l)) = sen at *
      generalize S (decDigits dn) = sd1 at *
      generalize S (decDigits nn) = sd2 at *
      generalize S (base l) = sba at *
      generalize S (folder l) = sfo at *
      generalize copyS l dn nn = c at *
      generalize S l = s at *
      cases e2 : isPath c with
      | false =>
        have hb2 := chk_bne e2
        rw [if_pos (bne_iff_ne.1 hb2)]
        simp only
        rw [S_nil]
        clear e2
        generalize chk c = v at *
        generalize S c = sc at *
        go_enter Tryd.func18, Tryd.ntmps18
        go_wp2_with fail
        refine X.out.mono ?_
        rintro e w1 ⟨rfl, hb1⟩
        have H1 := Lib.hid hb1
        clear hb1 X
        go_wp2_with fail
        refine (SP.out w1).mono ?_
        rintro e w2 ⟨rfl, hb1⟩
        have H2 := Lib.hid (Nx.trans H1.out hb1)
        clear hb1 SP H1
        go_wp2_with fail
        refine (EN.out w2).mono ?_
        rintro e w3 ⟨rfl, hb1⟩
        have H3 := Lib.hid (Nx.trans H2.out hb1)
        clear hb1 EN H2
        go_wp2_with fail
        refine (D1.out w3).mono ?_
        rintro e w4 ⟨rfl, hb1⟩
        have H4 := Lib.hid (Nx.trans H3.out hb1)
        clear hb1 D1 H3
        go_wp2_with fail
        refine (D2.out w4).mono ?_
        rintro e w5 ⟨rfl, hb1⟩
        have H5 := Lib.hid (Nx.trans H4.out hb1)
        clear hb1 D2 H4
        go_wp2_with fail
        refine (WI.out w5).mono ?_
        rintro e w6 ⟨rfl, rfl⟩
        go_wp2_with fail
        refine (CK.out w5).mono ?_
        rintro e w6 ⟨rfl, hb1⟩
        have H6 := Lib.hid (Nx.trans H5.out hb1)
        clear hb1 CK H5 WI
        go_wp2
        go_ret2
        exact ⟨rfl, H6.out⟩
      | true =>
        have h0 : chk c = 0 := chk_zero.2 e2
        rw [if_neg (by rw [h0]; simp)]
        rw [h0] at CK
        simp only
        clear e2 h0
        generalize S c = sc at *
        go_enter Tryd.func18, Tryd.ntmps18
        go_wp2_with fail
        refine X.out.mono ?_
        rintro e w1 ⟨rfl, hb1⟩
        have H1 := Lib.hid hb1
        clear hb1 X
        go_wp2_with fail
        refine (SP.out w1).mono ?_
        rintro e w2 ⟨rfl, hb1⟩
        have H2 := Lib.hid (Nx.trans H1.out hb1)
        clear hb1 SP H1
        go_wp2_with fail
        refine (EN.out w2).mono ?_
        rintro e w3 ⟨rfl, hb1⟩
        have H3 := Lib.hid (Nx.trans H2.out hb1)
        clear hb1 EN H2
        go_wp2_with fail
        refine (D1.out w3).mono ?_
        rintro e w4 ⟨rfl, hb1⟩
        have H4 := Lib.hid (Nx.trans H3.out hb1)
        clear hb1 D1 H3
        go_wp2_with fail
        refine (D2.out w4).mono ?_
        rintro e w5 ⟨rfl, hb1⟩
        have H5 := Lib.hid (Nx.trans H4.out hb1)
        clear hb1 D2 H4
        go_wp2_with fail
        refine (WI.out w5).mono ?_
        rintro e w6 ⟨rfl, rfl⟩
        go_wp2_with fail
        refine (CK.out w5).mono ?_
        rintro e w6 ⟨rfl, hb1⟩
        have H6 := Lib.hid (Nx.trans H5.out hb1)
        clear hb1 CK H5 WI
        go_wp2
        go_ret2
        exact ⟨rfl, H6.out⟩
    · rw [if_pos hr]
      simp only
      rw [S_nil]
      generalize S l = s at *
      have hr4 : d < 1 ∨ (¬ d < 1 ∧ 99 < d) ∨ (¬ d < 1 ∧ ¬ 99 < d ∧ n < 0) ∨ (¬ d < 1 ∧ ¬ 99 < d ∧ ¬ n < 0 ∧ 999 < n) := by unfold inRange at hr; omega
      clear hr e1 h0
      rcases hr4 with h | ⟨h, h1⟩ | ⟨h, h1, h2⟩ | ⟨h, h1, h2, h3⟩
      all_goals
        go_enter Tryd.func18, Tryd.ntmps18
        go_wp2_with fail
        refine X.out.mono ?_
        rintro e w1 ⟨rfl, hb1⟩
        have H1 := Lib.hid hb1
        clear hb1 X
        go_wp2
        go_ret2
        exact ⟨rfl, H1.out⟩

/-! ### number -/
/-- What a numeral of one to three bytes is read as. -/
def RNum (l : List UInt8) (r : Int) (t : Bool) : Prop := (∃ n : Nat, n ≤ 999 ∧ l = decDigits n ∧ r = (n : Int) ∧ t = true) ∨ ((∀ n : Nat, l ≠ decDigits n) ∧ t = false)
def RRet (l : List UInt8) (e : Ending) : Prop := ∃ r t, e = .returned (.tuple #[.int .i64 r, .bool t]) ∧ RNum l r t
def digTo (l : List UInt8) (i : Nat) : Prop := ∀ j, j < i → 48 ≤ (l.getD j 0).toNat ∧ (l.getD j 0).toNat ≤ 57
theorem ofNat_digit {c : UInt8} (h1 : 48 ≤ c.toNat) : UInt8.ofNat (48 + (c.toNat - 48)) = c := by
  rw [show 48 + (c.toNat - 48) = c.toNat by omega, UInt8.ofNat_toNat]
theorem rnum_end {l : List UInt8} (h1 : 1 ≤ l.length) (h3 : l.length ≤ 3) (hd : digTo l l.length) (k : Nat) (hk : k = dval l) :
    (l.length = 1 ∨ (l.getD 0 0).toNat ≠ 48 → RNum l (k : Int) true) ∧ (¬ (l.length = 1 ∨ (l.getD 0 0).toNat ≠ 48) → RNum l (k : Int) false) := by
  subst hk
  constructor
  · intro h
    left
    match l, h1, h3, hd, h with
    | [a], _, _, hd, _ =>
      have ha := hd 0 (by simp)
      simp only [List.getD, List.getElem?_cons_zero, Option.getD_some] at ha
      refine ⟨dval [a], by simp [dval]; omega, ?_, rfl, rfl⟩
      have e : dval [a] = a.toNat - 48 := by simp [dval]
      rw [e, dec_one (by omega), ofNat_digit ha.1]
    | [a, b], _, _, hd, h =>
      have ha := hd 0 (by simp)
      have hb := hd 1 (by simp)
      simp only [List.getD, List.getElem?_cons_zero, List.getElem?_cons_succ, Option.getD_some, List.length_cons, List.length_nil] at ha hb h
      have e : dval [a, b] = 10 * (a.toNat - 48) + (b.toNat - 48) := by simp [dval]; omega
      refine ⟨dval [a, b], by omega, ?_, rfl, rfl⟩
      rw [e, dec_step (by omega) (by omega), dec_one (by omega), ofNat_digit ha.1, ofNat_digit hb.1]
      rfl
    | [a, b, c], _, _, hd, h =>
      have ha := hd 0 (by simp)
      have hb := hd 1 (by simp)
      have hc := hd 2 (by simp)
      simp only [List.getD, List.getElem?_cons_zero, List.getElem?_cons_succ, Option.getD_some, List.length_cons, List.length_nil] at ha hb hc h
      have e : dval [a, b, c] = 10 * (10 * (a.toNat - 48) + (b.toNat - 48)) + (c.toNat - 48) := by simp [dval]; omega
      refine ⟨dval [a, b, c], by omega, ?_, rfl, rfl⟩
      rw [e, dec_step (by omega) (by omega), dec_step (by omega) (by omega), dec_one (by omega), ofNat_digit ha.1, ofNat_digit hb.1, ofNat_digit hc.1]
      rfl
  · intro h
    right
    refine ⟨fun n e => ?_, rfl⟩
    rw [not_or] at h
    have h0 : (l.getD 0 0).toNat = 48 := Classical.byContradiction h.2
    rcases Nat.eq_zero_or_pos n with hn | hn
    · subst hn
      rw [dec0] at e
      rw [e] at h
      simp at h
    · obtain ⟨c, r, g1, g2⟩ := dec_head n hn
      rw [e, g1] at h0
      simp at h0
      exact g2 h0
set_option maxRecDepth 100000 in
theorem rnumber_any (w : World) (l : List UInt8) (h1 : 1 ≤ l.length) (h3 : l.length ≤ 3) :
    Calls Tryd.prog 43 #[.string (S l)] w fun e w' => RRet l e ∧ Nx w w' := by
  have hsz := S_size l
  have Hix := Lib.hid (fun W j hj => run_index_string W l j hj)
  have Hend : Hid (digTo l l.length → (l.length = 1 ∨ (l.getD 0 0).toNat ≠ 48 → RNum l (dval l : Nat) true) ∧ (¬ (l.length = 1 ∨ (l.getD 0 0).toNat ≠ 48) → RNum l (dval l : Nat) false)) := fun h => rnum_end h1 h3 h _ rfl
  have Hbad : Hid (∀ i, i < l.length → ((l.getD i 0).toNat < 48 ∨ 57 < (l.getD i 0).toNat) → RNum l 0 false) := fun i hi h => .inr ⟨fun n => bad_byte hi h n, rfl⟩
  have Htake : Hid (∀ i, i < l.length → dval (l.take (i + 1)) = dval (l.take i) * 10 + ((l.getD i 0).toNat - 48)) := fun i hi => by
    rw [List.take_succ_eq_append_getElem hi, dval_append]
    simp [List.getD, hi]
  generalize hs : S l = s at *
  clear hs
  generalize hn : l.length = m at *
  have Hn := Lib.hid hn
  clear hn
  go_enter Tryd.func43, Tryd.ntmps43
  go_wp2
  go_loopw [4, 5] (fun y x wr => ∃ i k : Nat, x = .int .i64 i ∧ y = .int .i64 k ∧ i ≤ m ∧ ((i = 0 ∧ k = 0) ∨ (i = 1 ∧ k ≤ 9) ∨ (i = 2 ∧ k ≤ 99) ∨ (i = 3 ∧ k ≤ 999)) ∧ w = wr ∧ Hid (digTo l i ∧ k = dval (l.take i))) (fun _ x _ => m - (intOf x).toNat)
  case atStart => exact ⟨0, 0, rfl, rfl, Nat.zero_le _, .inl ⟨rfl, rfl⟩, rfl, fun j hj => absurd hj (by omega), rfl⟩
  case round =>
    obtain ⟨i, k, rfl, rfl, hi, hk, rfl, hok⟩ := hrel
    by_cases hlt : i < m
    · have hix := fun W => Hix.out W i hlt
      have e0 : nth l i = (((l.getD i 0).toNat : Nat) : Int) := rfl
      rw [e0] at hix
      have b1 : (l.getD i 0).toNat < 256 := (l.getD i 0).toNat_lt
      have hbad := Hbad.out i hlt
      have htk := Htake.out i hlt
      have hnx : 48 ≤ (l.getD i 0).toNat → (l.getD i 0).toNat ≤ 57 → digTo l (i + 1) := fun g1 g2 j hj => by
        by_cases e : j = i
        · rw [e]; exact ⟨g1, g2⟩
        · exact hok.out.1 j (by omega)
      rw [← hok.out.2] at htk
      clear e0 hok
      generalize (l.getD i 0).toNat = y at *
      have Hbad2 := Lib.hid hbad
      have Htk := Lib.hid htk
      have Hnx := Lib.hid hnx
      have i1 : (i : Int) < (m : Int) := by omega
      have hk999 : (k : Int) ≤ 999 := by omega
      clear hbad htk hnx
      by_cases c1 : (y : Int) < 48
      · have hR := Hbad2.out (.inl (by omega))
        have HR := Lib.hid hR
        have q1 : decide ((y : Int) < 48) = true := by simpa using c1
        clear hR
        go_wp2
        all_goals go_ret2
        all_goals exact ⟨⟨_, _, rfl, HR.out⟩, Nx.refl _⟩
      · have q1 : decide ((y : Int) < 48) = false := by simpa using c1
        by_cases c2 : (57 : Int) < (y : Int)
        · have hR := Hbad2.out (.inr (by omega))
          have HR := Lib.hid hR
          have q2 : decide ((57 : Int) < (y : Int)) = true := by simpa using c2
          clear hR
          go_wp2
          all_goals go_ret2
          all_goals exact ⟨⟨_, _, rfl, HR.out⟩, Nx.refl _⟩
        · have q2 : decide ((57 : Int) < (y : Int)) = false := by simpa using c2
          have hnext := Hnx.out (by omega) (by omega)
          have hd48 : ((y - 48 : Nat) : Int) = (y : Int) - 48 := by omega
          have Hnext := Lib.hid hnext
          have m8 : ((y : Int) - 48) % 256 = (y : Int) - 48 := by omega
          have hk2 : ((k * 10 + (y - 48) : Nat) : Int) = (k : Int) * 10 + ((y : Int) - 48) := by omega
          have Hk2 := Lib.hid hk2
          clear hnext hd48 hk2
          go_wp2
          go_roundw
          case rel => exact ⟨i + 1, k * 10 + (y - 48), by go_num, by rw [Hk2.out], by omega, by omega, by first | trivial | rfl, Hnext.out, Htk.out.symm⟩
          case measure => simp [intOf]; omega
    · obtain rfl : i = m := by omega
      have hkd : k = dval l := by
        have := hok.out.2
        rwa [List.take_of_length_le (by rw [Hn.out]; omega)] at this
      have he := Hend.out hok.out.1
      rw [← hkd] at he
      have he1 := Lib.hid he.1
      have he2 := Lib.hid he.2
      have hix := fun W => Hix.out W 0 (by omega)
      have e0 : nth l 0 = (((l.getD 0 0).toNat : Nat) : Int) := rfl
      rw [e0] at hix
      simp only [Int.natCast_zero] at hix
      have b1 : (l.getD 0 0).toNat < 256 := (l.getD 0 0).toNat_lt
      clear e0 hok hkd he
      generalize (l.getD 0 0).toNat = y at *
      by_cases c1 : i = 1
      · have HR := Lib.hid (he1.out (.inl c1))
        have q1 : ((i : Int) == 1) = true := by simp; omega
        subst c1
        go_wp2_with fail
        go_quiet (fail)
        go_wp2
        go_ret2
        exact ⟨⟨_, _, rfl, HR.out⟩, (Nx.refl _).drewN _⟩
      · have q1 : ((i : Int) == 1) = false := by simp; omega
        by_cases c2 : y = 48
        · have HR := Lib.hid (he2.out (by rw [not_or]; exact ⟨c1, by simpa using c2⟩))
          have q2 : ((y : Int) != 48) = false := by simp; omega
          have q3 : (0 : Int) < (i : Int) := by omega
          go_wp2_with fail
          go_quiet (fail)
          go_wp2
          go_ret2
          exact ⟨⟨_, _, rfl, HR.out⟩, (Nx.refl _).drewN _⟩
        · have HR := Lib.hid (he1.out (.inr c2))
          have q2 : ((y : Int) != 48) = true := by simp [bne_iff_ne]; omega
          have q3 : (0 : Int) < (i : Int) := by omega
          go_wp2_with fail
          go_quiet (fail)
          go_wp2
          go_ret2
          exact ⟨⟨_, _, rfl, HR.out⟩, (Nx.refl _).drewN _⟩
end Go.Proofs.YtkffijgmcekboaaDoor

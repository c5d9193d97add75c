/- Package path: names and paths. -/
import Derived.Test.YtkffijgmcekboaaDoorPtProg
namespace Go.Proofs.YtkffijgmcekboaaDoor
open Go.RowKit
open Go.Lib (decDigits)
set_option linter.unusedVariables false

theorem run_bytes_of_text (w : World) (l : List UInt8) (hs : l.length ≤ maxLen) :
    ∃ c w', (convert 39 61 (.string (S l))).run Tryd.prog w = .ok (.slice (some ⟨w.heap.size, 0, none⟩) l.length c) w' ∧
      (∀ j, j < l.length → w'.cell? ⟨w.heap.size, j, none⟩ = some (.int .u8 (nth l j))) ∧ l.length ≤ c ∧ Nx w w' := by
  have hs' : (S l).size ≤ maxLen := by rw [S_size]; exact hs
  refine ⟨_, _, (by rw [← S_size]; exact Lib.run_convert_string_bytes w _ _ _ (S l) Tryd.underlying39 Tryd.underlying61 Tryd.underlying5), ?_, ?_, ?_⟩
  · intro j hj
    rw [Lib.bytesWorld_cell _ _ _ _ (by rw [S_size]; exact hj)]
    rfl
  · rw [← S_size]
    exact grownCap_ge _ _ _ _
  · exact ⟨rfl, rfl, rfl, by rw [Lib.bytesWorld_size]; omega, fun k hk => Lib.bytesWorld_at_old _ _ _ _ hk⟩
theorem run_index_text (w : World) (l : List UInt8) (j : Nat) (hj : j < l.length) : (Instr.index 39 (.string (S l)) (.int .i64 (j : Int))).run Tryd.prog w = .ok (.int .u8 (nth l j)) w := by
  have hb : l[j]? = some l[j] := List.getElem?_eq_getElem hj
  have hg : (⟨l.toArray⟩ : ByteArray)[j]? = some l[j] := by
    have h2 : j < (⟨l.toArray⟩ : ByteArray).size := hj
    rw [ByteArray.getElem?_lt' _ _ h2]
    have := (List.getElem?_eq_some_iff.1 hb).2
    exact congrArg some this
  have h0 : (0 : Int) ≤ (j : Int) := by omega
  rw [nth_eq l j hj]
  unfold S
  simp [Instr.index, asIntOf, Sem.run_bind, run_underlying Tryd.underlying39 w, h0, hg]

def lettersL : List UInt8 := [97, 98, 99, 100, 101, 102, 103, 104, 105, 106, 107, 108, 109, 110, 111, 112, 113, 114, 115, 116, 117, 118, 119, 120, 121, 122, 48, 49, 50, 51, 52, 53, 54, 55, 56, 57, 45, 95, 46]
def letPos (x : UInt8) : Int := Lib.indexByte lettersL x
theorem letPos_ok (x : UInt8) : (letPos x < 0) = (okCh x = false) := by
  have : ∀ j : Fin 256, decide (letPos (UInt8.ofNat j.val) < 0) = !okCh (UInt8.ofNat j.val) := by decide +kernel
  have h := this ⟨x.toNat, x.toNat_lt⟩
  simp only [UInt8.ofNat_toNat] at h
  rw [eq_iff_iff]
  constructor
  · intro h1
    rw [decide_eq_true h1] at h
    simpa using h.symm
  · intro h1
    rw [h1] at h
    simpa using h
theorem letters_any (w : World) (x : UInt8) (n : Int) (hn : n = (x.toNat : Int)) :
    Calls Tryd.prog 53 #[.string ⟨#[97, 98, 99, 100, 101, 102, 103, 104, 105, 106, 107, 108, 109, 110, 111, 112, 113, 114, 115, 116, 117, 118, 119, 120, 121, 122, 48, 49, 50, 51, 52, 53, 54, 55, 56, 57, 45, 95, 46]⟩, .int .u8 n] w fun e w' => e = .returned (.int .i64 (letPos x)) ∧ w = w' := by
  have H := Tryd.strings_IndexByte ⟨#[97, 98, 99, 100, 101, 102, 103, 104, 105, 106, 107, 108, 109, 110, 111, 112, 113, 114, 115, 116, 117, 118, 119, 120, 121, 122, 48, 49, 50, 51, 52, 53, 54, 55, 56, 57, 45, 95, 46]⟩ n w
  have e : n.toNat.toUInt8 = x := by subst hn; simp
  rw [e] at H
  refine H.mono ?_
  rintro e w' ⟨h1, h2⟩
  exact ⟨h1, h2.symm⟩

def okTo (l : List UInt8) (i : Nat) : Prop := ∀ j, j < i → okCh (l.getD j 0) = true
theorem okTo_all {l : List UInt8} (h : okTo l l.length) : l.all okCh = true := by
  rw [List.all_eq_true]
  intro x hx
  obtain ⟨j, hj, rfl⟩ := List.getElem_of_mem hx
  have := h j hj
  simpa [List.getD, hj] using this
theorem okTo_not {l : List UInt8} {i : Nat} (hi : i < l.length) (h : okCh (l.getD i 0) = false) : l.all okCh = false := by
  rw [List.all_eq_false]
  refine ⟨l[i], List.getElem_mem hi, ?_⟩
  simpa [List.getD, hi] using h

set_option maxRecDepth 100000 in
theorem isName_any (w : World) (l : List UInt8) (hl : l.length ≤ 1000000000000) :
    Calls Tryd.prog 45 #[.string (S l)] w fun e w' => e = .returned (.bool (isName l)) ∧ Nx w w' := by
  have hsz := S_size l
  by_cases h0 : l = []
  · subst h0
    rw [name_nil, S_nil]
    clear hsz
    go_enter Tryd.func45, Tryd.ntmps45
    go_wp2
    go_ret
    exact ⟨rfl, Nx.refl _⟩
  have hpos : 1 ≤ l.length := List.length_pos_iff.2 h0
  by_cases h24 : 24 < l.length
  · have hn : isName l = false := by simp [isName, Nat.not_le.2 h24]
    rw [hn]
    have i1 : (24 : Int) < (l.length : Int) := by omega
    have i2 : (1 : Int) ≤ (l.length : Int) := by omega
    generalize S l = s at *
    generalize l.length = n at *
    clear h0 hn
    go_enter Tryd.func45, Tryd.ntmps45
    go_wp2
    go_ret
    exact ⟨rfl, Nx.refl _⟩
  have hx0 := fun W => run_index_text W l 0 hpos
  have hhead : l.head? = some (l.getD 0 0) := by cases l with
    | nil => exact absurd rfl h0
    | cons a l => rfl
  by_cases h46 : l.getD 0 0 = 46
  · have hn : isName l = false := by
      unfold isName
      rw [hhead, h46]
      simp
    rw [hn]
    have e0 : nth l 0 = 46 := by unfold nth; rw [h46]; rfl
    rw [e0] at hx0
    simp only [Int.natCast_zero] at hx0
    have i1 : ¬ (24 : Int) < (l.length : Int) := by omega
    have i2 : (1 : Int) ≤ (l.length : Int) := by omega
    generalize S l = s at *
    generalize l.length = n at *
    clear h0 hn hhead h46 e0
    go_enter Tryd.func45, Tryd.ntmps45
    go_wp2
    go_ret
    exact ⟨rfl, Nx.refl _⟩
  have e46 : (nth l 0 == (46 : Int)) = false := by
    unfold nth
    simp only [beq_eq_false_iff_ne, ne_eq]
    intro h
    apply h46
    have : (l.getD 0 0).toNat = 46 := by omega
    rw [← UInt8.toNat_inj, this]
    rfl
  have hn : isName l = l.all okCh := by
    unfold isName
    rw [hhead]
    have e1 : (some (l.getD 0 0) != some 46) = true := by simpa [bne_iff_ne] using h46
    rw [e1, decide_eq_true hpos, decide_eq_true (show l.length ≤ 24 by omega)]
    rfl
  simp only [Int.natCast_zero] at hx0
  rw [hn]
  obtain ⟨c, w1, hrun, hcell, hc, hnx⟩ := run_bytes_of_text w l (by unfold maxLen; omega)
  have Hcell := Lib.hid hcell
  have Hnx := Lib.hid hnx
  have Hall : Hid (okTo l l.length → l.all okCh = true) := okTo_all
  have Hnot : Hid (∀ i, i < l.length → okCh (l.getD i 0) = false → l.all okCh = false) := fun i => okTo_not
  have i1 : ¬ (24 : Int) < (l.length : Int) := by omega
  have i2 : (1 : Int) ≤ (l.length : Int) := by omega
  have hl24 : l.length ≤ 24 := by omega
  generalize S l = s at *
  generalize nth l 0 = x0 at *
  generalize hN : l.length = n at *
  clear h0 hn hhead h46 hcell hnx
  generalize l.all okCh = R at *
  go_enter Tryd.func45, Tryd.ntmps45
  go_wp2
  have HN := Lib.hid hN
  clear hN hrun hx0
  go_loopw [21] (fun x wr => ∃ i : Nat, x = .int .i64 i ∧ i ≤ n ∧ wr = w1 ∧ Hid (okTo l i)) (fun x _ => n - (intOf x).toNat)
  case atStart => exact ⟨0, rfl, Nat.zero_le _, rfl, fun j hj => absurd hj (by omega)⟩
  case round =>
    obtain ⟨i, rfl, hi, rfl, hok⟩ := hrel
    by_cases hlt : i < n
    · have hcell := Hcell.out i hlt
      have hnth : nth l i = ((l.getD i 0).toNat : Int) := rfl
      have hlast : okCh (l.getD i 0) = false → R = false := Hnot.out i hlt
      have hgood : okCh (l.getD i 0) = true → okTo l (i + 1) := fun h j hj => by
        by_cases e : j = i
        · rw [e]; exact h
        · exact hok.out j (by omega)
      have hlet := letPos_ok (l.getD i 0)
      have hlo := nth_lo l i
      have hhi := nth_hi l i
      generalize nth l i = v at *
      generalize l.getD i 0 = y at *
      have X := Lib.hid (fun W => letters_any W y v hnth)
      have Hlast := Lib.hid hlast
      have Hgood := Lib.hid hgood
      have Hlet := Lib.hid hlet
      clear hnth hlast hgood hlet hok
      go_wp2_with fail
      refine (X.out wr).mono ?_
      rintro e w' ⟨rfl, rfl⟩
      by_cases hneg : letPos y < 0
      · have hR := Hlast.out (Hlet.out ▸ hneg)
        subst hR
        have hd : decide (letPos y < 0) = true := by simpa using hneg
        clear Hlast Hgood Hlet X
        generalize letPos y = p at *
        go_wp2
        go_ret
        exact ⟨rfl, Hnx.out⟩
      · have hd : decide (letPos y < 0) = false := by simpa using hneg
        have hg := Hgood.out (by
          cases e : okCh y with
          | true => rfl
          | false => exact absurd (Hlet.out.symm ▸ e) hneg)
        have Hg := Lib.hid hg
        clear Hlast Hgood Hlet X hg
        generalize letPos y = p at *
        go_wp2
        go_roundw
        case rel => exact ⟨i + 1, by go_num, hlt, by first | trivial | rfl, Hg.out⟩
        case measure => simp [intOf]; omega
    · obtain rfl : i = n := by omega
      have hR := Hall.out hok.out
      subst hR
      clear hok
      go_wp2
      go_ret
      exact ⟨rfl, Hnx.out⟩

/-! ### Names of a path -/
def isNamesK (k : Nat) (l : List UInt8) : Bool := decide ((names l).length ≤ k) && (names l).all isName
theorem names_cut {c a b : List UInt8} (h : cutF 47 c = some (a, b)) : names c = a :: names b := by
  obtain ⟨h1, h2⟩ := cutF_some.1 h
  rw [h1, names_append, names_none h2]
  rfl
theorem isNamesK_zero (l : List UInt8) : isNamesK 0 l = false := by
  unfold isNamesK
  have : ¬ (names l).length ≤ 0 := by
    have := List.length_pos_iff.2 (names_ne l)
    omega
  rw [decide_eq_false this]
  rfl
theorem isNamesK_cut {k : Nat} {c a b : List UInt8} (h : cutF 47 c = some (a, b)) : isNamesK (k + 1) c = (isName a && isNamesK k b) := by
  unfold isNamesK
  rw [names_cut h, List.length_cons, List.all_cons]
  have : decide ((names b).length + 1 ≤ k + 1) = decide ((names b).length ≤ k) := by simp
  rw [this]
  cases isName a <;> cases decide ((names b).length ≤ k) <;> rfl
theorem isNamesK_one {k : Nat} {c : List UInt8} (h : cutF 47 c = none) : isNamesK (k + 1) c = isName c := by
  unfold isNamesK
  rw [names_none (cutF_none.1 h)]
  simp
theorem isPath_K (l : List UInt8) : isPath l = (decide (l.length ≤ 64) && isNamesK 4 l) := by
  unfold isPath isNamesK
  rw [Bool.and_assoc]

set_option maxRecDepth 100000 in
theorem isNames_any (w : World) (l : List UInt8) (hl : l.length ≤ 1000000000000) :
    Calls Tryd.prog 35 #[.string (S l)] w fun e w' => e = .returned (.bool (isNamesK 4 l)) ∧ Nx w w' := by
  generalize hR : isNamesK 4 l = R
  have HR := Lib.hid hR
  have Hl := Lib.hid hl
  clear hR hl
  generalize hs : S l = s
  have Hs := Lib.hid hs
  clear hs
  go_enter Tryd.func35, Tryd.ntmps35
  go_wp2
  go_loopw [3, 8] (fun y x wr => ∃ (i : Nat) (r : List UInt8), x = .int .i64 i ∧ y = .string (S r) ∧ i ≤ 4 ∧ Nx w wr ∧ Hid (isNamesK (4 - i) r = R ∧ r.length ≤ 1000000000000)) (fun _ x _ => 4 - (intOf x).toNat)
  case atStart => exact ⟨0, l, rfl, by rw [Hs.out], Nat.zero_le _, Nx.refl _, HR.out, Hl.out⟩
  case round =>
    obtain ⟨i, r, rfl, rfl, hi, hnx, hr⟩ := hrel
    have Hnx := Lib.hid hnx
    clear hnx
    by_cases hlt : i < 4
    · obtain ⟨a, b, t, hcut⟩ := isCut_ex 47 r
      have hla : a.length ≤ 1000000000000 ∧ b.length ≤ 1000000000000 := by
        have := hr.out.2
        rcases hcut with ⟨h, _⟩ | ⟨_, h1, h2, _⟩
        · have := congrArg List.length (cutF_some.1 h).1
          simp at this
          omega
        · subst h1 h2
          simp
          omega
      have X := Lib.hid (fun W => cut_any W r 47 hr.out.2 a b t hcut)
      have Y := Lib.hid (fun W => isName_any W a hla.1)
      have hstep : isNamesK (4 - i) r = (if t then (isName a && isNamesK (4 - (i + 1)) b) else isName a) := by
        obtain ⟨k, hk⟩ : ∃ k, 4 - i = k + 1 := ⟨3 - i, by omega⟩
        have hk2 : 4 - (i + 1) = k := by omega
        rw [hk, hk2]
        rcases hcut with ⟨h, rfl⟩ | ⟨h, rfl, rfl, rfl⟩
        · rw [isNamesK_cut h]
          rfl
        · rw [isNamesK_one h]
          rfl
      rw [hr.out.1] at hstep
      have Hstep := Lib.hid hstep
      have Hla := Lib.hid hla
      clear hstep hla hr hcut
      go_wp2_with fail
      refine (X.out wr).mono ?_
      rintro e w2 ⟨rfl, hb⟩
      have Hb := Lib.hid (Nx.trans Hnx.out hb)
      clear hb X
      go_wp2_with fail
      refine (Y.out w2).mono ?_
      rintro e w3 ⟨rfl, hb⟩
      have Hb3 := Lib.hid (Nx.trans Hb.out hb)
      clear hb Y Hb Hnx
      cases hn : isName a with
      | false =>
        have hRf : R = false := by have := Hstep.out; rw [hn] at this; cases t <;> simpa using this
        subst hRf
        clear hn
        go_wp2
        go_ret
        exact ⟨rfl, Hb3.out⟩
      | true =>
        cases t with
        | false =>
          have hRt : R = true := by have := Hstep.out; rw [hn] at this; simpa using this
          subst hRt
          clear hn
          go_wp2
          go_ret
          exact ⟨rfl, Hb3.out⟩
        | true =>
          have hnext : isNamesK (4 - (i + 1)) b = R := by have := Hstep.out; rw [hn] at this; simpa using this.symm
          have Hnext := Lib.hid hnext
          clear hn hnext Hstep
          go_wp2
          go_roundw
          case rel => exact ⟨i + 1, b, by go_num, rfl, by omega, Hb3.out, Hnext.out, Hla.out.2⟩
          case measure => simp [intOf]; omega
    · obtain rfl : i = 4 := by omega
      have hRf : R = false := by rw [← hr.out.1]; exact isNamesK_zero r
      subst hRf
      clear hr
      go_wp2
      go_ret
      exact ⟨rfl, Hnx.out⟩

theorem check_any (w : World) (l : List UInt8) :
    Calls Tryd.prog 11 #[.string (S l)] w fun e w' => e = .returned (.int .i64 (chk l)) ∧ Nx w w' := by
  have hsz := S_size l
  by_cases h : 64 < l.length
  · have hc : chk l = 3 := by unfold chk; rw [if_pos h]
    rw [hc]
    have i1 : (64 : Int) < (l.length : Int) := by omega
    clear hc
    generalize S l = s at *
    generalize l.length = n at *
    go_enter Tryd.func11, Tryd.ntmps11
    go_wp2
    go_ret
    exact ⟨rfl, Nx.refl _⟩
  · have hc : chk l = if isNamesK 4 l then 0 else 2 := by
      unfold chk
      rw [if_neg h, isPath_K, decide_eq_true (show l.length ≤ 64 by omega)]
      rfl
    rw [hc]
    have X := Lib.hid (isNames_any w l (by omega))
    have i1 : ¬ (64 : Int) < (l.length : Int) := by omega
    clear hc
    generalize S l = s at *
    generalize l.length = n at *
    cases e : isNamesK 4 l with
    | true =>
      rw [e] at X
      clear e
      go_enter Tryd.func11, Tryd.ntmps11
      go_wp2_with fail
      refine X.out.mono ?_
      rintro e w2 ⟨rfl, hb⟩
      have Hb := Lib.hid hb
      clear hb X
      go_wp2
      go_ret
      exact ⟨rfl, Hb.out⟩
    | false =>
      rw [e] at X
      clear e
      go_enter Tryd.func11, Tryd.ntmps11
      go_wp2_with fail
      refine X.out.mono ?_
      rintro e w2 ⟨rfl, hb⟩
      have Hb := Lib.hid hb
      clear hb X
      go_wp2
      go_ret
      exact ⟨rfl, Hb.out⟩
theorem name_any (w : World) (l : List UInt8) (hl : l.length ≤ 1000000000000) :
    Calls Tryd.prog 23 #[.string (S l)] w fun e w' => e = .returned (.bool (isName l)) ∧ Nx w w' := by
  have X := Lib.hid (isName_any w l hl)
  generalize isName l = R at *
  generalize S l = s at *
  go_enter Tryd.func23, Tryd.ntmps23
  go_wp2_with fail
  refine X.out.mono ?_
  rintro e w2 ⟨rfl, hb⟩
  have Hb := Lib.hid hb
  clear hb X
  go_wp2
  go_ret
  exact ⟨rfl, Hb.out⟩

/-- A path, and nothing where it is none. -/
def pathOr (l : List UInt8) : List UInt8 := if isPath l then l else []
theorem pathOr_len (l : List UInt8) : (pathOr l).length ≤ 64 := by
  unfold pathOr
  split
  · rename_i h
    exact (path_parts h).len
  · simp
theorem pathOr_any (w : World) (l : List UInt8) :
    Calls Tryd.prog 26 #[.string (S l)] w fun e w' => e = .returned (.string (S (pathOr l))) ∧ Nx w w' := by
  have X := Lib.hid (check_any w l)
  have hz := @chk_zero l
  unfold pathOr
  cases e : isPath l with
  | true =>
    rw [hz.2 e] at X
    rw [if_pos rfl]
    clear e hz
    generalize S l = s at *
    go_enter Tryd.func26, Tryd.ntmps26
    go_wp2_with fail
    refine X.out.mono ?_
    rintro e w2 ⟨rfl, hb⟩
    have Hb := Lib.hid hb
    clear hb X
    go_wp2
    go_ret
    exact ⟨rfl, Hb.out⟩
  | false =>
    have hne : chk l ≠ 0 := fun h => by rw [hz.1 h] at e; exact absurd e (by decide)
    have hb2 : ((chk l) != 0) = true := by simpa [bne_iff_ne] using hne
    rw [if_neg (by decide)]
    clear e hz
    generalize S l = s at *
    generalize chk l = v at *
    go_enter Tryd.func26, Tryd.ntmps26
    go_wp2_with fail
    refine X.out.mono ?_
    rintro e w2 ⟨rfl, hb⟩
    have Hb := Lib.hid hb
    clear hb X
    go_wp2
    go_ret
    exact ⟨rfl, Hb.out⟩
end Go.Proofs.YtkffijgmcekboaaDoor

/- Package path's names at this program: what isNoPath's parts return, of strings as lists of bytes. -/
import Derived.Test.YtodnckflobefpaaTrPure
import Derived.Test.YtodnckflobefpaaPtShelf
import Derived.Test.YtodnckflobefpaaTrMem
import Derived.Deep.QuietTactic
import Derived.BigQuiet
namespace Go.Proofs.Ytodnckflobefpaa
open Go.RowKit
open Go.Lib (decDigits)
set_option linter.unusedVariables false

/-- A string of those bytes. -/
def S (l : List UInt8) : ByteArray := ⟨l.toArray⟩
theorem S_of (s : ByteArray) : S s.data.toList = s := Lib.mk_data s
theorem S_list (l : List UInt8) : (S l).data.toList = l := rfl
theorem S_toList (l : List UInt8) : (S l).toList = l := by rw [Lib.toList_data]; rfl
theorem S_size (l : List UInt8) : (S l).size = l.length := by rw [Lib.size_eq]; rfl
theorem S_extract (l : List UInt8) (a b : Nat) : (S l).extract a b = S ((l.drop a).take (b - a)) := Lib.extract_eq (S l) a b
theorem S_append (a b : List UInt8) : S a ++ S b = S (a ++ b) := by
  unfold S
  apply ByteArray.ext
  simp
theorem S_nil : S [] = ⟨#[]⟩ := rfl
theorem S_inj {a b : List UInt8} : S a = S b ↔ a = b := ⟨fun h => congrArg (fun s : ByteArray => s.data.toList) h, fun h => h ▸ rfl⟩

def firstPos (c : UInt8) (l : List UInt8) : Int := match cutF c l with | some p => (p.1.length : Int) | none => -1
def lastPos (c : UInt8) (l : List UInt8) : Int := match cutL c l with | some p => (p.1.length : Int) | none => -1
theorem indexByte_first (c : UInt8) : ∀ l : List UInt8, Lib.indexByte l c = firstPos c l
  | [] => rfl
  | x :: l => by
    have ih := indexByte_first c l
    unfold Lib.indexByte firstPos cutF
    by_cases h : x = c
    · simp [h]
    · have hb : (x == c) = false := by simp [h]
      rw [hb, if_neg h, ih]
      unfold firstPos
      cases cutF c l with
      | none => rfl
      | some p =>
        simp
theorem firstPos_cases (c : UInt8) (l : List UInt8) : (firstPos c l = -1 ∧ cutF c l = none) ∨ (∃ a b, cutF c l = some (a, b) ∧ l = a ++ c :: b ∧ c ∉ a ∧ firstPos c l = (a.length : Int)) := by
  unfold firstPos
  cases e : cutF c l with
  | none => exact .inl ⟨rfl, rfl⟩
  | some p => exact .inr ⟨p.1, p.2, rfl, (cutF_some.1 e).1, (cutF_some.1 e).2, rfl⟩
theorem lastPos_cases (c : UInt8) (l : List UInt8) : (lastPos c l = -1 ∧ cutL c l = none) ∨ (∃ a b, cutL c l = some (a, b) ∧ l = a ++ c :: b ∧ c ∉ b ∧ lastPos c l = (a.length : Int)) := by
  unfold lastPos
  cases e : cutL c l with
  | none => exact .inl ⟨rfl, rfl⟩
  | some p => exact .inr ⟨p.1, p.2, rfl, (cutL_some.1 e).1, (cutL_some.1 e).2, rfl⟩

/-- What was there is as it was. -/
def Nx (w w' : World) : Prop := Below w.heap.size w w'
theorem Nx.refl (w : World) : Nx w w := Below.refl _ _
theorem Nx.trans {a b c : World} (h : Nx a b) (k : Nx b c) : Nx a c := Below.trans h (Below.mono k h.size)
theorem Nx.drew {a b : World} (h : Nx a b) : Nx a b.drew := Below.drew h
theorem Nx.drewN {a b : World} (h : Nx a b) (n : Nat) : Nx a (b.drewN n) := ⟨h.os, h.tape, h.output, h.size, h.block⟩
theorem Nx.alloc {a b : World} (h : Nx a b) (o : Obj) : Nx a (b.alloc o) := Below.alloc h h.size o
theorem Nx.of_below {w w' : World} (h : Below w.heap.size w w') : Nx w w' := h
/-- What strings.Cut returns at one byte. -/
def IsCut (c : UInt8) (l a b : List UInt8) (t : Bool) : Prop := (cutF c l = some (a, b) ∧ t = true) ∨ (cutF c l = none ∧ a = l ∧ b = [] ∧ t = false)
theorem isCut_ex (c : UInt8) (l : List UInt8) : ∃ a b t, IsCut c l a b t := by
  cases e : cutF c l with
  | none => exact ⟨l, [], false, .inr ⟨e, rfl, rfl, rfl⟩⟩
  | some p => exact ⟨p.1, p.2, true, .inl ⟨e, rfl⟩⟩
/-- internal/stringslite.Cut at one byte. -/
theorem cut1_any (w : World) (l : List UInt8) (c : UInt8) (hl : l.length ≤ 1000000000000) (a b : List UInt8) (t : Bool) (h : IsCut c l a b t) :
    Calls Try.prog 88 #[.string (S l), .string ⟨#[c]⟩] w fun e w' => e = .returned (.tuple #[.string (S a), .string (S b), .bool t]) ∧ Nx w w' := by
  have H := Try.stringslite_Index_one (S l) c w
  rw [S_list, indexByte_first] at H
  have hsz := S_size l
  rcases h with ⟨h, rfl⟩ | ⟨h, rfl, rfl, rfl⟩
  · obtain ⟨h1, h2⟩ := cutF_some.1 h
    have hp : firstPos c l = (a.length : Int) := by unfold firstPos; rw [h]
    have e1 : (S l).extract 0 a.length = S a := by rw [S_extract, h1]; simp
    have e2 : (S l).extract (a.length + 1) (S l).size = S b := by
      rw [S_extract, S_size, h1]
      congr 1
      rw [List.drop_append, List.take_of_length_le (by simp; omega)]
      simp
    have hlen : a.length + 1 ≤ l.length := by rw [h1]; simp
    rw [hp] at H
    rw [hsz] at e2
    generalize a.length = n at *
    have X := Lib.hid H
    have E1 := Lib.hid e1
    have E2 := Lib.hid e2
    have i1 : (n : Int) ≤ (l.length : Int) := by omega
    have i2 : (n : Int) + 1 ≤ (l.length : Int) := by omega
    clear H e1 e2 h1 h2 h hp
    generalize S l = s at *
    generalize l.length = m at *
    go_enter Try.func88, Try.ntmps88
    go_wp2_with fail
    refine X.out.mono ?_
    rintro e w' ⟨rfl, rfl⟩
    go_wp2_with fail
    go_quiet (fail)
    go_wp2
    go_ret3
    rw [← E1.out, ← E2.out]
    exact ⟨rfl, (Nx.refl _).drewN _⟩
  · have hp : firstPos c a = -1 := by unfold firstPos; rw [h]
    rw [hp] at H
    have X := Lib.hid H
    clear H h hp hsz
    generalize S a = s at *
    go_enter Try.func88, Try.ntmps88
    go_wp2_with fail
    refine X.out.mono ?_
    rintro e w' ⟨rfl, rfl⟩
    go_wp2
    go_ret3
    exact ⟨rfl, Nx.refl _⟩
theorem cut_any (w : World) (l : List UInt8) (c : UInt8) (hl : l.length ≤ 1000000000000) (a b : List UInt8) (t : Bool) (h : IsCut c l a b t) :
    Calls Try.prog 75 #[.string (S l), .string ⟨#[c]⟩] w fun e w' => e = .returned (.tuple #[.string (S a), .string (S b), .bool t]) ∧ Nx w w' := by
  have X := Lib.hid (cut1_any w l c hl a b t h)
  clear h
  go_enter Try.func75, Try.ntmps75
  go_wp2_with fail
  refine X.out.mono ?_
  rintro e w' ⟨rfl, hb⟩
  have Hb := Lib.hid hb
  clear hb X
  go_wp2
  go_ret3
  exact ⟨rfl, Hb.out⟩

theorem clone_any (w : World) (s : ByteArray) (hl : s.size ≤ 1000000000000) :
    Calls Try.prog 32 #[.string s] w fun e w' => e = .returned (.string s) ∧ Nx w w' := by
  have X := Lib.hid (Try.stringslite_Clone s w (by omega))
  go_enter Try.func32, Try.ntmps32
  go_wp2_with fail
  refine X.out.mono ?_
  rintro e w' ⟨rfl, hb⟩
  have Hb := Lib.hid hb
  clear hb X
  go_wp2
  go_ret
  exact ⟨rfl, Hb.out⟩
theorem own_any (w : World) (s : ByteArray) (hl : s.size ≤ 1000000000000) :
    Calls Try.prog 69 #[.string s] w fun e w' => e = .returned (.string s) ∧ Nx w w' := by
  have X := Lib.hid (clone_any w s hl)
  go_enter Try.func69, Try.ntmps69
  go_wp2_with fail
  refine X.out.mono ?_
  rintro e w' ⟨rfl, hb⟩
  have Hb := Lib.hid hb
  clear hb X
  go_wp2
  go_ret
  exact ⟨rfl, Hb.out⟩

theorem run_bytes_of_text (w : World) (l : List UInt8) (hs : l.length ≤ maxLen) :
    ∃ c w', (convert 101 29 (.string (S l))).run Try.prog w = .ok (.slice (some ⟨w.heap.size, 0, none⟩) l.length c) w' ∧
      (∀ j, j < l.length → w'.cell? ⟨w.heap.size, j, none⟩ = some (.int .u8 (nth l j))) ∧ l.length ≤ c ∧ Nx w w' := by
  have hs' : (S l).size ≤ maxLen := by rw [S_size]; exact hs
  refine ⟨_, _, (by rw [← S_size]; exact Lib.run_convert_string_bytes w _ _ _ (S l) Try.underlying101 Try.underlying29 Try.underlying5), ?_, ?_, ?_⟩
  · intro j hj
    rw [Lib.bytesWorld_cell _ _ _ _ (by rw [S_size]; exact hj)]
    rfl
  · rw [← S_size]
    exact grownCap_ge _ _ _ _
  · exact ⟨rfl, rfl, rfl, by rw [Lib.bytesWorld_size]; omega, fun k hk => Lib.bytesWorld_at_old _ _ _ _ hk⟩
theorem run_index_text (w : World) (l : List UInt8) (j : Nat) (hj : j < l.length) : (Instr.index 101 (.string (S l)) (.int .i64 (j : Int))).run Try.prog w = .ok (.int .u8 (nth l j)) w := by
  have hb : l[j]? = some l[j] := List.getElem?_eq_getElem hj
  have hg : (⟨l.toArray⟩ : ByteArray)[j]? = some l[j] := by
    have h2 : j < (⟨l.toArray⟩ : ByteArray).size := hj
    rw [ByteArray.getElem?_lt' _ _ h2]
    have := (List.getElem?_eq_some_iff.1 hb).2
    exact congrArg some this
  have h0 : (0 : Int) ≤ (j : Int) := by omega
  rw [nth_eq l j hj]
  unfold S
  simp [Instr.index, asIntOf, Sem.run_bind, run_underlying Try.underlying101 w, h0, hg]

def lettersL : List UInt8 := [97, 98, 99, 100, 101, 102, 103, 104, 105, 106, 107, 108, 109, 110, 111, 112, 113, 114, 115, 116, 117, 118, 119, 120, 121, 122, 48, 49, 50, 51, 52, 53, 54, 55, 56, 57, 45, 95, 46]
def letPos (x : UInt8) : Int := Lib.indexByte lettersL x
theorem letPos_ok (x : UInt8) : (letPos x < 0) = (okCh x = false) := by
  have : ∀ j : Fin 256, decide (letPos (UInt8.ofNat j.val) < 0) = !okCh (UInt8.ofNat j.val) := by decide +kernel
  have h := this ⟨x.toNat, x.toNat_lt⟩
  simp only [UInt8.ofNat_toNat] at h
  rw [eq_iff_iff]
  constructor
  · intro h1
    rw [decide_eq_true h1] at h
    simpa using h.symm
  · intro h1
    rw [h1] at h
    simpa using h
theorem letters_any (w : World) (x : UInt8) (n : Int) (hn : n = (x.toNat : Int)) :
    Calls Try.prog 89 #[.string ⟨#[97, 98, 99, 100, 101, 102, 103, 104, 105, 106, 107, 108, 109, 110, 111, 112, 113, 114, 115, 116, 117, 118, 119, 120, 121, 122, 48, 49, 50, 51, 52, 53, 54, 55, 56, 57, 45, 95, 46]⟩, .int .u8 n] w fun e w' => e = .returned (.int .i64 (letPos x)) ∧ w = w' := by
  have H := Try.strings_IndexByte ⟨#[97, 98, 99, 100, 101, 102, 103, 104, 105, 106, 107, 108, 109, 110, 111, 112, 113, 114, 115, 116, 117, 118, 119, 120, 121, 122, 48, 49, 50, 51, 52, 53, 54, 55, 56, 57, 45, 95, 46]⟩ n w
  have e : n.toNat.toUInt8 = x := by subst hn; simp
  rw [e] at H
  refine H.mono ?_
  rintro e w' ⟨h1, h2⟩
  exact ⟨h1, h2.symm⟩

def okTo (l : List UInt8) (i : Nat) : Prop := ∀ j, j < i → okCh (l.getD j 0) = true
theorem okTo_all {l : List UInt8} (h : okTo l l.length) : l.all okCh = true := by
  rw [List.all_eq_true]
  intro x hx
  obtain ⟨j, hj, rfl⟩ := List.getElem_of_mem hx
  have := h j hj
  simpa [List.getD, hj] using this
theorem okTo_not {l : List UInt8} {i : Nat} (hi : i < l.length) (h : okCh (l.getD i 0) = false) : l.all okCh = false := by
  rw [List.all_eq_false]
  refine ⟨l[i], List.getElem_mem hi, ?_⟩
  simpa [List.getD, hi] using h

set_option maxRecDepth 100000 in
theorem isName_any (w : World) (l : List UInt8) (hl : l.length ≤ 1000000000000) :
    Calls Try.prog 76 #[.string (S l)] w fun e w' => e = .returned (.bool (isName l)) ∧ Nx w w' := by
  have hsz := S_size l
  by_cases h0 : l = []
  · subst h0
    rw [name_nil, S_nil]
    clear hsz
    go_enter Try.func76, Try.ntmps76
    go_wp2
    go_ret
    exact ⟨rfl, Nx.refl _⟩
  have hpos : 1 ≤ l.length := List.length_pos_iff.2 h0
  by_cases h24 : 24 < l.length
  · have hn : isName l = false := by simp [isName, Nat.not_le.2 h24]
    rw [hn]
    have i1 : (24 : Int) < (l.length : Int) := by omega
    have i2 : (1 : Int) ≤ (l.length : Int) := by omega
    generalize S l = s at *
    generalize l.length = n at *
    clear h0 hn
    go_enter Try.func76, Try.ntmps76
    go_wp2
    go_ret
    exact ⟨rfl, Nx.refl _⟩
  have hx0 := fun W => run_index_text W l 0 hpos
  have hhead : l.head? = some (l.getD 0 0) := by cases l with
    | nil => exact absurd rfl h0
    | cons a l => rfl
  by_cases h46 : l.getD 0 0 = 46
  · have hn : isName l = false := by
      unfold isName
      rw [hhead, h46]
      simp
    rw [hn]
    have e0 : nth l 0 = 46 := by unfold nth; rw [h46]; rfl
    rw [e0] at hx0
    simp only [Int.natCast_zero] at hx0
    have i1 : ¬ (24 : Int) < (l.length : Int) := by omega
    have i2 : (1 : Int) ≤ (l.length : Int) := by omega
    generalize S l = s at *
    generalize l.length = n at *
    clear h0 hn hhead h46 e0
    go_enter Try.func76, Try.ntmps76
    go_wp2
    go_ret
    exact ⟨rfl, Nx.refl _⟩
  have e46 : (nth l 0 == (46 : Int)) = false := by
    unfold nth
    simp only [beq_eq_false_iff_ne, ne_eq]
    intro h
    apply h46
    have : (l.getD 0 0).toNat = 46 := by omega
    rw [← UInt8.toNat_inj, this]
    rfl
  have hn : isName l = l.all okCh := by
    unfold isName
    rw [hhead]
    have e1 : (some (l.getD 0 0) != some 46) = true := by simpa [bne_iff_ne] using h46
    rw [e1, decide_eq_true hpos, decide_eq_true (show l.length ≤ 24 by omega)]
    rfl
  simp only [Int.natCast_zero] at hx0
  rw [hn]
  obtain ⟨c, w1, hrun, hcell, hc, hnx⟩ := run_bytes_of_text w l (by unfold maxLen; omega)
  have Hcell := Lib.hid hcell
  have Hnx := Lib.hid hnx
  have Hall : Hid (okTo l l.length → l.all okCh = true) := okTo_all
  have Hnot : Hid (∀ i, i < l.length → okCh (l.getD i 0) = false → l.all okCh = false) := fun i => okTo_not
  have i1 : ¬ (24 : Int) < (l.length : Int) := by omega
  have i2 : (1 : Int) ≤ (l.length : Int) := by omega
  have hl24 : l.length ≤ 24 := by omega
  generalize S l = s at *
  generalize nth l 0 = x0 at *
  generalize hN : l.length = n at *
  clear h0 hn hhead h46 hcell hnx
  generalize l.all okCh = R at *
  go_enter Try.func76, Try.ntmps76
  go_wp2
  have HN := Lib.hid hN
  clear hN hrun hx0
  go_loopw [21] (fun x wr => ∃ i : Nat, x = .int .i64 i ∧ i ≤ n ∧ wr = w1 ∧ Hid (okTo l i)) (fun x _ => n - (intOf x).toNat)
  case atStart => exact ⟨0, rfl, Nat.zero_le _, rfl, fun j hj => absurd hj (by omega)⟩
  case round =>
    obtain ⟨i, rfl, hi, rfl, hok⟩ := hrel
    by_cases hlt : i < n
    · have hcell := Hcell.out i hlt
      have hnth : nth l i = ((l.getD i 0).toNat : Int) := rfl
      have hlast : okCh (l.getD i 0) = false → R = false := Hnot.out i hlt
      have hgood : okCh (l.getD i 0) = true → okTo l (i + 1) := fun h j hj => by
        by_cases e : j = i
        · rw [e]; exact h
        · exact hok.out j (by omega)
      have hlet := letPos_ok (l.getD i 0)
      have hlo := nth_lo l i
      have hhi := nth_hi l i
      generalize nth l i = v at *
      generalize l.getD i 0 = y at *
      have X := Lib.hid (fun W => letters_any W y v hnth)
      have Hlast := Lib.hid hlast
      have Hgood := Lib.hid hgood
      have Hlet := Lib.hid hlet
      clear hnth hlast hgood hlet hok
      go_wp2_with fail
      refine (X.out wr).mono ?_
      rintro e w' ⟨rfl, rfl⟩
      by_cases hneg : letPos y < 0
      · have hR := Hlast.out (Hlet.out ▸ hneg)
        subst hR
        have hd : decide (letPos y < 0) = true := by simpa using hneg
        clear Hlast Hgood Hlet X
        generalize letPos y = p at *
        go_wp2
        go_ret
        exact ⟨rfl, Hnx.out⟩
      · have hd : decide (letPos y < 0) = false := by simpa using hneg
        have hg := Hgood.out (by
          cases e : okCh y with
          | true => rfl
          | false => exact absurd (Hlet.out.symm ▸ e) hneg)
        have Hg := Lib.hid hg
        clear Hlast Hgood Hlet X hg
        generalize letPos y = p at *
        go_wp2
        go_roundw
        case rel => exact ⟨i + 1, by go_num, hlt, by first | trivial | rfl, Hg.out⟩
        case measure => simp [intOf]; omega
    · obtain rfl : i = n := by omega
      have hR := Hall.out hok.out
      subst hR
      clear hok
      go_wp2
      go_ret
      exact ⟨rfl, Hnx.out⟩

def isNamesK (k : Nat) (l : List UInt8) : Bool := decide ((names l).length ≤ k) && (names l).all isName
theorem names_cut {c a b : List UInt8} (h : cutF 47 c = some (a, b)) : names c = a :: names b := by
  obtain ⟨h1, h2⟩ := cutF_some.1 h
  rw [h1, names_append, names_none h2]
  rfl
theorem isNamesK_zero (l : List UInt8) : isNamesK 0 l = false := by
  unfold isNamesK
  have : ¬ (names l).length ≤ 0 := by
    have := List.length_pos_iff.2 (names_ne l)
    omega
  rw [decide_eq_false this]
  rfl
theorem isNamesK_cut {k : Nat} {c a b : List UInt8} (h : cutF 47 c = some (a, b)) : isNamesK (k + 1) c = (isName a && isNamesK k b) := by
  unfold isNamesK
  rw [names_cut h, List.length_cons, List.all_cons]
  have : decide ((names b).length + 1 ≤ k + 1) = decide ((names b).length ≤ k) := by simp
  rw [this]
  cases isName a <;> cases decide ((names b).length ≤ k) <;> rfl
theorem isNamesK_one {k : Nat} {c : List UInt8} (h : cutF 47 c = none) : isNamesK (k + 1) c = isName c := by
  unfold isNamesK
  rw [names_none (cutF_none.1 h)]
  simp
theorem isPath_K (l : List UInt8) : isPath l = (decide (l.length ≤ 64) && isNamesK 4 l) := by
  unfold isPath isNamesK
  rw [Bool.and_assoc]

set_option maxRecDepth 100000 in
theorem isNames_any (w : World) (l : List UInt8) (hl : l.length ≤ 1000000000000) :
    Calls Try.prog 70 #[.string (S l)] w fun e w' => e = .returned (.bool (isNamesK 4 l)) ∧ Nx w w' := by
  generalize hR : isNamesK 4 l = R
  have HR := Lib.hid hR
  have Hl := Lib.hid hl
  clear hR hl
  generalize hs : S l = s
  have Hs := Lib.hid hs
  clear hs
  go_enter Try.func70, Try.ntmps70
  go_wp2
  go_loopw [3, 8] (fun y x wr => ∃ (i : Nat) (r : List UInt8), x = .int .i64 i ∧ y = .string (S r) ∧ i ≤ 4 ∧ Nx w wr ∧ Hid (isNamesK (4 - i) r = R ∧ r.length ≤ 1000000000000)) (fun _ x _ => 4 - (intOf x).toNat)
  case atStart => exact ⟨0, l, rfl, by rw [Hs.out], Nat.zero_le _, Nx.refl _, HR.out, Hl.out⟩
  case round =>
    obtain ⟨i, r, rfl, rfl, hi, hnx, hr⟩ := hrel
    have Hnx := Lib.hid hnx
    clear hnx
    by_cases hlt : i < 4
    · obtain ⟨a, b, t, hcut⟩ := isCut_ex 47 r
      have hla : a.length ≤ 1000000000000 ∧ b.length ≤ 1000000000000 := by
        have := hr.out.2
        rcases hcut with ⟨h, _⟩ | ⟨_, h1, h2, _⟩
        · have := congrArg List.length (cutF_some.1 h).1
          simp at this
          omega
        · subst h1 h2
          simp
          omega
      have X := Lib.hid (fun W => cut_any W r 47 hr.out.2 a b t hcut)
      have Y := Lib.hid (fun W => isName_any W a hla.1)
      have hstep : isNamesK (4 - i) r = (if t then (isName a && isNamesK (4 - (i + 1)) b) else isName a) := by
        obtain ⟨k, hk⟩ : ∃ k, 4 - i = k + 1 := ⟨3 - i, by omega⟩
        have hk2 : 4 - (i + 1) = k := by omega
        rw [hk, hk2]
        rcases hcut with ⟨h, rfl⟩ | ⟨h, rfl, rfl, rfl⟩
        · rw [isNamesK_cut h]
          rfl
        · rw [isNamesK_one h]
          rfl
      rw [hr.out.1] at hstep
      have Hstep := Lib.hid hstep
      have Hla := Lib.hid hla
      clear hstep hla hr hcut
      go_wp2_with fail
      refine (X.out wr).mono ?_
      rintro e w2 ⟨rfl, hb⟩
      have Hb := Lib.hid (Nx.trans Hnx.out hb)
      clear hb X
      go_wp2_with fail
      refine (Y.out w2).mono ?_
      rintro e w3 ⟨rfl, hb⟩
      have Hb3 := Lib.hid (Nx.trans Hb.out hb)
      clear hb Y Hb Hnx
      cases hn : isName a with
      | false =>
        have hRf : R = false := by have := Hstep.out; rw [hn] at this; cases t <;> simpa using this
        subst hRf
        clear hn
        go_wp2
        go_ret
        exact ⟨rfl, Hb3.out⟩
      | true =>
        cases t with
        | false =>
          have hRt : R = true := by have := Hstep.out; rw [hn] at this; simpa using this
          subst hRt
          clear hn
          go_wp2
          go_ret
          exact ⟨rfl, Hb3.out⟩
        | true =>
          have hnext : isNamesK (4 - (i + 1)) b = R := by have := Hstep.out; rw [hn] at this; simpa using this.symm
          have Hnext := Lib.hid hnext
          clear hn hnext Hstep
          go_wp2
          go_roundw
          case rel => exact ⟨i + 1, b, by go_num, rfl, by omega, Hb3.out, Hnext.out, Hla.out.2⟩
          case measure => simp [intOf]; omega
    · obtain rfl : i = 4 := by omega
      have hRf : R = false := by rw [← hr.out.1]; exact isNamesK_zero r
      subst hRf
      clear hr
      go_wp2
      go_ret
      exact ⟨rfl, Hnx.out⟩

theorem check_any (w : World) (l : List UInt8) :
    Calls Try.prog 63 #[.string (S l)] w fun e w' => e = .returned (.int .i64 (chk l)) ∧ Nx w w' := by
  have hsz := S_size l
  by_cases h : 64 < l.length
  · have hc : chk l = 3 := by unfold chk; rw [if_pos h]
    rw [hc]
    have i1 : (64 : Int) < (l.length : Int) := by omega
    clear hc
    generalize S l = s at *
    generalize l.length = n at *
    go_enter Try.func63, Try.ntmps63
    go_wp2
    go_ret
    exact ⟨rfl, Nx.refl _⟩
  · have hc : chk l = if isNamesK 4 l then 0 else 2 := by
      unfold chk
      rw [if_neg h, isPath_K, decide_eq_true (show l.length ≤ 64 by omega)]
      rfl
    rw [hc]
    have X := Lib.hid (isNames_any w l (by omega))
    have i1 : ¬ (64 : Int) < (l.length : Int) := by omega
    clear hc
    generalize S l = s at *
    generalize l.length = n at *
    cases e : isNamesK 4 l with
    | true =>
      rw [e] at X
      clear e
      go_enter Try.func63, Try.ntmps63
      go_wp2_with fail
      refine X.out.mono ?_
      rintro e w2 ⟨rfl, hb⟩
      have Hb := Lib.hid hb
      clear hb X
      go_wp2
      go_ret
      exact ⟨rfl, Hb.out⟩
    | false =>
      rw [e] at X
      clear e
      go_enter Try.func63, Try.ntmps63
      go_wp2_with fail
      refine X.out.mono ?_
      rintro e w2 ⟨rfl, hb⟩
      have Hb := Lib.hid hb
      clear hb X
      go_wp2
      go_ret
      exact ⟨rfl, Hb.out⟩
theorem chk_bne {l : List UInt8} (h : isPath l = false) : ((chk l) != 0) = true := by
  rw [bne_iff_ne]
  intro h2
  rw [chk_zero.1 h2] at h
  exact absurd h (by decide)
theorem temped_any (w : World) (l : List UInt8) :
    Calls Try.prog 62 #[.string (S l)] w fun e w' => e = .returned (.tuple #[.string (S (tempedR l).1), .bool (tempedR l).2]) ∧ Nx w w' := by
  have X := Lib.hid (Try.strings_CutPrefix (S l) ⟨#[46, 116, 109, 112, 47]⟩ w)
  have hp : Lib.hasPrefix (S l).data.toList (⟨#[46, 116, 109, 112, 47]⟩ : ByteArray).data.toList = tempL.isPrefixOf l := rfl
  have ht : Lib.trimPrefix (S l).data.toList (⟨#[46, 116, 109, 112, 47]⟩ : ByteArray).data.toList = if tempL.isPrefixOf l then l.drop 5 else l := rfl
  rw [hp, ht] at X
  unfold tempedR
  clear hp ht
  cases e1 : tempL.isPrefixOf l with
  | false =>
    rw [e1] at X
    rw [if_neg (by decide)] at X
    rw [Bool.false_and, if_neg (by decide)]
    simp only
    rw [S_nil]
    clear e1
    have hS : (⟨l.toArray⟩ : ByteArray) = S l := rfl
    rw [hS] at X
    clear hS
    generalize S l = s at *
    go_enter Try.func62, Try.ntmps62
    go_wp2_with fail
    refine X.out.mono ?_
    rintro e w1 ⟨rfl, rfl⟩
    clear X
    go_wp2
    go_ret2
    exact ⟨rfl, Nx.refl _⟩
  | true =>
    rw [e1] at X
    rw [if_pos rfl] at X
    rw [Bool.true_and]
    clear e1
    have hS : (⟨(l.drop 5).toArray⟩ : ByteArray) = S (l.drop 5) := rfl
    rw [hS] at X
    clear hS
    generalize l.drop 5 = p at *
    have Y := Lib.hid (fun W => check_any W p)
    cases e2 : isPath p with
    | false =>
      have hb := chk_bne e2
      rw [if_neg (by decide)]
      simp only
      rw [S_nil]
      clear e2
      generalize chk p = v at *
      generalize S p = q at *
      generalize S l = s at *
      go_enter Try.func62, Try.ntmps62
      go_wp2_with fail
      refine X.out.mono ?_
      rintro e w1 ⟨rfl, rfl⟩
      clear X
      go_wp2_with fail
      refine (Y.out w1).mono ?_
      rintro e w2 ⟨rfl, hb1⟩
      have H1 := Lib.hid hb1
      clear hb1 Y
      go_wp2
      go_ret2
      exact ⟨rfl, H1.out⟩
    | true =>
      have h0 : chk p = 0 := chk_zero.2 e2
      rw [h0] at Y
      rw [if_pos rfl]
      simp only
      have hl := (path_parts e2).len
      have O := Lib.hid (fun W => own_any W (S p) (by rw [S_size]; omega))
      clear e2 h0 hl
      generalize S p = q at *
      generalize S l = s at *
      go_enter Try.func62, Try.ntmps62
      go_wp2_with fail
      refine X.out.mono ?_
      rintro e w1 ⟨rfl, rfl⟩
      clear X
      go_wp2_with fail
      refine (Y.out w1).mono ?_
      rintro e w2 ⟨rfl, hb1⟩
      have H1 := Lib.hid hb1
      clear hb1 Y
      go_wp2_with fail
      refine (O.out w2).mono ?_
      rintro e w3 ⟨rfl, hb1⟩
      have H2 := Lib.hid (Nx.trans H1.out hb1)
      clear hb1 O H1
      go_wp2
      go_ret2
      exact ⟨rfl, H2.out⟩
end Go.Proofs.Ytodnckflobefpaa

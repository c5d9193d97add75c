/- Functions of the library that the names of files use: what they return, of strings as lists of bytes. -/
import Derived.Test.YtkffijgmcekboaaDoorPtPure
import Derived.Test.YtkffijgmcekboaaDoorPtShelf
import Derived.Test.YtkffijgmcekboaaDoorMem
import Derived.Lib.LaidTab
import Derived.Lib.AppendIntMem
import Derived.Deep.QuietTactic
import Derived.BigQuiet
namespace Go.Proofs.YtkffijgmcekboaaDoor
open Go.RowKit
set_option linter.unusedVariables false

/-- A string of those bytes. -/
def S (l : List UInt8) : ByteArray := ⟨l.toArray⟩
theorem S_of (s : ByteArray) : S s.data.toList = s := Lib.mk_data s
theorem S_list (l : List UInt8) : (S l).data.toList = l := rfl
theorem S_toList (l : List UInt8) : (S l).toList = l := by rw [Lib.toList_data]; rfl
theorem S_size (l : List UInt8) : (S l).size = l.length := by rw [Lib.size_eq]; rfl
theorem S_extract (l : List UInt8) (a b : Nat) : (S l).extract a b = S ((l.drop a).take (b - a)) := Lib.extract_eq (S l) a b
theorem S_append (a b : List UInt8) : S a ++ S b = S (a ++ b) := by
  unfold S
  apply ByteArray.ext
  simp
theorem S_nil : S [] = ⟨#[]⟩ := rfl
theorem S_inj {a b : List UInt8} : S a = S b ↔ a = b := ⟨fun h => congrArg (fun s : ByteArray => s.data.toList) h, fun h => h ▸ rfl⟩

def firstPos (c : UInt8) (l : List UInt8) : Int := match cutF c l with | some p => (p.1.length : Int) | none => -1
def lastPos (c : UInt8) (l : List UInt8) : Int := match cutL c l with | some p => (p.1.length : Int) | none => -1
theorem indexByte_first (c : UInt8) : ∀ l : List UInt8, Lib.indexByte l c = firstPos c l
  | [] => rfl
  | x :: l => by
    have ih := indexByte_first c l
    unfold Lib.indexByte firstPos cutF
    by_cases h : x = c
    · simp [h]
    · have hb : (x == c) = false := by simp [h]
      rw [hb, if_neg h, ih]
      unfold firstPos
      cases cutF c l with
      | none => rfl
      | some p =>
        simp
theorem lastByte_last (c : UInt8) (l : List UInt8) : Lib.Pa.lastIndexByte l c = lastPos c l := by
  unfold lastPos
  cases e : cutL c l with
  | none =>
    have hn := cutL_none.1 e
    rcases Lib.Pa.lastIndexByte_spec l c with ⟨h, _⟩ | ⟨i, _, h, _⟩
    · exact h
    · exact absurd (List.mem_of_getElem? h) hn
  | some p =>
    obtain ⟨h1, h2⟩ := cutL_some.1 e
    rcases Lib.Pa.lastIndexByte_spec l c with ⟨_, h⟩ | ⟨i, hi, h, hno⟩
    · exact absurd (by rw [h1]; simp) (h p.1.length)
    · rw [hi]
      have hge : ¬ p.1.length < i := by
        intro hlt
        rw [h1, List.getElem?_append_right (by omega)] at h
        obtain ⟨k, hk⟩ : ∃ k, i - p.1.length = k + 1 := ⟨i - p.1.length - 1, by omega⟩
        rw [hk, List.getElem?_cons_succ] at h
        exact h2 (List.mem_of_getElem? h)
      have hle : ¬ i < p.1.length := by
        intro hlt
        exact hno p.1.length hlt (by rw [h1]; simp)
      have : i = p.1.length := by omega
      rw [this]
theorem firstPos_cases (c : UInt8) (l : List UInt8) : (firstPos c l = -1 ∧ cutF c l = none) ∨ (∃ a b, cutF c l = some (a, b) ∧ l = a ++ c :: b ∧ c ∉ a ∧ firstPos c l = (a.length : Int)) := by
  unfold firstPos
  cases e : cutF c l with
  | none => exact .inl ⟨rfl, rfl⟩
  | some p => exact .inr ⟨p.1, p.2, rfl, (cutF_some.1 e).1, (cutF_some.1 e).2, rfl⟩
theorem lastPos_cases (c : UInt8) (l : List UInt8) : (lastPos c l = -1 ∧ cutL c l = none) ∨ (∃ a b, cutL c l = some (a, b) ∧ l = a ++ c :: b ∧ c ∉ b ∧ lastPos c l = (a.length : Int)) := by
  unfold lastPos
  cases e : cutL c l with
  | none => exact .inl ⟨rfl, rfl⟩
  | some p => exact .inr ⟨p.1, p.2, rfl, (cutL_some.1 e).1, (cutL_some.1 e).2, rfl⟩

/-! ### Worlds that have grown -/
/-- What was there is as it was. -/
def Nx (w w' : World) : Prop := Below w.heap.size w w'
theorem Nx.refl (w : World) : Nx w w := Below.refl _ _
theorem Nx.trans {a b c : World} (h : Nx a b) (k : Nx b c) : Nx a c := Below.trans h (Below.mono k h.size)
theorem Nx.drew {a b : World} (h : Nx a b) : Nx a b.drew := Below.drew h
theorem Nx.drewN {a b : World} (h : Nx a b) (n : Nat) : Nx a (b.drewN n) := ⟨h.os, h.tape, h.output, h.size, h.block⟩
theorem Nx.alloc {a b : World} (h : Nx a b) (o : Obj) : Nx a (b.alloc o) := Below.alloc h h.size o
theorem Nx.of_below {w w' : World} (h : Below w.heap.size w w') : Nx w w' := h
theorem Nx.grow (w : World) (k : Nat) (os : Array Obj) : Nx w (Sort.grow (w.drewN k) os) := Lib.below_grow _ _ (Nat.le_refl _) _ _

/-- The table of powers of ten lies as the program's text lays it. -/
def Tab (w : World) : Prop := Lib.TabIs Tryd.prog w "internal/strconv.uint64pow10" .u64 Lib.pow10Tab
theorem Tab.next {w w' : World} (h : Tab w) (k : Nx w w') : Tab w' := by
  unfold Tab Lib.TabIs World.var? at h ⊢
  cases e : Tryd.prog.globalNamed "internal/strconv.uint64pow10" with
  | none => rw [e] at h; exact absurd h (by simp)
  | some g =>
    rw [e] at h
    simp only [Option.bind_some] at h ⊢
    have hlt : g < w.heap.size := by
      cases e2 : w.heap[g]? with
      | none => rw [e2] at h; exact absurd h (by simp)
      | some o => exact (Array.getElem?_eq_some_iff.1 e2).1
    rw [k.block g hlt]
    exact h

/-- strings.LastIndexByte. -/
theorem last_any (w : World) (l : List UInt8) (c : UInt8) (hl : l.length ≤ 1000000000000) :
    Calls Tryd.prog 46 #[.string (S l), .int .u8 c.toNat] w fun e w' => e = .returned (.int .i64 (lastPos c l)) ∧ w = w' := by
  have H := Tryd.bytealg_LastIndexByteString (S l) c w (by rw [S_size]; omega)
  rw [S_list, lastByte_last] at H
  generalize lastPos c l = v at *
  have X := Lib.hid H
  clear H
  go_enter Tryd.func46, Tryd.ntmps46
  go_wp2_with fail
  refine X.out.mono ?_
  rintro e w' ⟨rfl, rfl⟩
  go_wp2
  go_ret
  exact ⟨rfl, rfl⟩

/-- What strings.Cut returns at one byte. -/
def IsCut (c : UInt8) (l a b : List UInt8) (t : Bool) : Prop := (cutF c l = some (a, b) ∧ t = true) ∨ (cutF c l = none ∧ a = l ∧ b = [] ∧ t = false)
theorem isCut_ex (c : UInt8) (l : List UInt8) : ∃ a b t, IsCut c l a b t := by
  cases e : cutF c l with
  | none => exact ⟨l, [], false, .inr ⟨e, rfl, rfl, rfl⟩⟩
  | some p => exact ⟨p.1, p.2, true, .inl ⟨e, rfl⟩⟩
/-- internal/stringslite.Cut at one byte. -/
theorem cut1_any (w : World) (l : List UInt8) (c : UInt8) (hl : l.length ≤ 1000000000000) (a b : List UInt8) (t : Bool) (h : IsCut c l a b t) :
    Calls Tryd.prog 55 #[.string (S l), .string ⟨#[c]⟩] w fun e w' => e = .returned (.tuple #[.string (S a), .string (S b), .bool t]) ∧ Nx w w' := by
  have H := Tryd.stringslite_Index_one (S l) c w
  rw [S_list, indexByte_first] at H
  have hsz := S_size l
  rcases h with ⟨h, rfl⟩ | ⟨h, rfl, rfl, rfl⟩
  · obtain ⟨h1, h2⟩ := cutF_some.1 h
    have hp : firstPos c l = (a.length : Int) := by unfold firstPos; rw [h]
    have e1 : (S l).extract 0 a.length = S a := by rw [S_extract, h1]; simp
    have e2 : (S l).extract (a.length + 1) (S l).size = S b := by
      rw [S_extract, S_size, h1]
      congr 1
      rw [List.drop_append, List.take_of_length_le (by simp; omega)]
      simp
    have hlen : a.length + 1 ≤ l.length := by rw [h1]; simp
    rw [hp] at H
    rw [hsz] at e2
    generalize a.length = n at *
    have X := Lib.hid H
    have E1 := Lib.hid e1
    have E2 := Lib.hid e2
    have i1 : (n : Int) ≤ (l.length : Int) := by omega
    have i2 : (n : Int) + 1 ≤ (l.length : Int) := by omega
    clear H e1 e2 h1 h2 h hp
    generalize S l = s at *
    generalize l.length = m at *
    go_enter Tryd.func55, Tryd.ntmps55
    go_wp2_with fail
    refine X.out.mono ?_
    rintro e w' ⟨rfl, rfl⟩
    go_wp2_with fail
    go_quiet (fail)
    go_wp2
    go_ret3
    rw [← E1.out, ← E2.out]
    exact ⟨rfl, (Nx.refl _).drewN _⟩
  · have hp : firstPos c a = -1 := by unfold firstPos; rw [h]
    rw [hp] at H
    have X := Lib.hid H
    clear H h hp hsz
    generalize S a = s at *
    go_enter Tryd.func55, Tryd.ntmps55
    go_wp2_with fail
    refine X.out.mono ?_
    rintro e w' ⟨rfl, rfl⟩
    go_wp2
    go_ret3
    exact ⟨rfl, Nx.refl _⟩
end Go.Proofs.YtkffijgmcekboaaDoor

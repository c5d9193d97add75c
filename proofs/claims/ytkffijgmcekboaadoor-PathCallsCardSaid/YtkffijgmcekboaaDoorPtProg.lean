/- Package path, function by function: what each returns, of strings as lists of bytes. -/
import Derived.Test.YtkffijgmcekboaaDoorPtLib
namespace Go.Proofs.YtkffijgmcekboaaDoor
open Go.RowKit
open Go.Lib (decDigits)
set_option linter.unusedVariables false

theorem cut_any (w : World) (l : List UInt8) (c : UInt8) (hl : l.length ≤ 1000000000000) (a b : List UInt8) (t : Bool) (h : IsCut c l a b t) :
    Calls Tryd.prog 47 #[.string (S l), .string ⟨#[c]⟩] w fun e w' => e = .returned (.tuple #[.string (S a), .string (S b), .bool t]) ∧ Nx w w' := by
  have X := Lib.hid (cut1_any w l c hl a b t h)
  clear h
  go_enter Tryd.func47, Tryd.ntmps47
  go_wp2_with fail
  refine X.out.mono ?_
  rintro e w' ⟨rfl, hb⟩
  have Hb := Lib.hid hb
  clear hb X
  go_wp2
  go_ret3
  exact ⟨rfl, Hb.out⟩

theorem clone_any (w : World) (s : ByteArray) (hl : s.size ≤ 1000000000000) :
    Calls Tryd.prog 49 #[.string s] w fun e w' => e = .returned (.string s) ∧ Nx w w' := by
  have X := Lib.hid (Tryd.stringslite_Clone s w (by omega))
  go_enter Tryd.func49, Tryd.ntmps49
  go_wp2_with fail
  refine X.out.mono ?_
  rintro e w' ⟨rfl, hb⟩
  have Hb := Lib.hid hb
  clear hb X
  go_wp2
  go_ret
  exact ⟨rfl, Hb.out⟩
theorem own_any (w : World) (s : ByteArray) (hl : s.size ≤ 1000000000000) :
    Calls Tryd.prog 32 #[.string s] w fun e w' => e = .returned (.string s) ∧ Nx w w' := by
  have X := Lib.hid (clone_any w s hl)
  go_enter Tryd.func32, Tryd.ntmps32
  go_wp2_with fail
  refine X.out.mono ?_
  rintro e w' ⟨rfl, hb⟩
  have Hb := Lib.hid hb
  clear hb X
  go_wp2
  go_ret
  exact ⟨rfl, Hb.out⟩

theorem S_tail {a b l : List UInt8} (h : a ++ b = l) : (S l).extract a.length l.length = S b := by
  subst h
  rw [S_extract]
  congr 1
  rw [List.drop_left]
  exact List.take_of_length_le (by rw [List.length_append]; omega)

/-! ### The parts of a path -/
theorem base_any (w : World) (l : List UInt8) (hl : l.length ≤ 1000000000000) :
    Calls Tryd.prog 27 #[.string (S l)] w fun e w' => e = .returned (.string (S (base l))) ∧ w = w' := by
  have X := Lib.hid (last_any w l 47 hl)
  have hsz := S_size l
  rcases lastPos_cases 47 l with ⟨hp, hc⟩ | ⟨a, b, hc, h1, h2, hp⟩
  · have hb : base l = l := by unfold base; rw [hc]
    have hx : (S l).extract 0 l.length = S l := by rw [S_extract]; simp
    rw [hb]
    rw [hp] at X
    have Hx := Lib.hid hx
    clear hc hb hx hp
    generalize S l = s at *
    go_enter Tryd.func27, Tryd.ntmps27
    go_wp2_with fail
    refine X.out.mono ?_
    rintro e w' ⟨rfl, rfl⟩
    go_wp2
    go_ret
    exact ⟨congrArg (fun z => Ending.returned (Value.string z)) Hx.out, rfl⟩
  · have hb : base l = b := by unfold base; rw [hc]
    have hx : (S l).extract (a.length + 1) l.length = S b := by
      rw [S_extract, h1]
      congr 1
      rw [List.drop_append, List.take_of_length_le (by simp; omega)]
      simp
    have hlen : a.length + 1 ≤ l.length := by rw [h1]; simp
    rw [hb]
    rw [hp] at X
    have Hx := Lib.hid hx
    clear hc hb hx hp h1 h2
    generalize a.length = n at *
    have i1 : (n : Int) + 1 ≤ (l.length : Int) := by omega
    generalize S l = s at *
    generalize l.length = m at *
    go_enter Tryd.func27, Tryd.ntmps27
    go_wp2_with fail
    refine X.out.mono ?_
    rintro e w' ⟨rfl, rfl⟩
    go_wp2
    go_ret
    rw [← Hx.out]
    exact ⟨rfl, rfl⟩
theorem folder_any (w : World) (l : List UInt8) (hl : l.length ≤ 1000000000000) :
    Calls Tryd.prog 30 #[.string (S l)] w fun e w' => e = .returned (.string (S (folder l))) ∧ w = w' := by
  have X := Lib.hid (last_any w l 47 hl)
  have hsz := S_size l
  rcases lastPos_cases 47 l with ⟨hp, hc⟩ | ⟨a, b, hc, h1, h2, hp⟩
  · have hb : folder l = [] := by unfold folder; rw [hc]
    have hx : (S l).extract 0 0 = S [] := by rw [S_extract]; simp
    rw [hb]
    rw [hp] at X
    have Hx := Lib.hid hx
    clear hc hb hx hp
    generalize S l = s at *
    generalize S [] = r at *
    go_enter Tryd.func30, Tryd.ntmps30
    go_wp2_with fail
    refine X.out.mono ?_
    rintro e w' ⟨rfl, rfl⟩
    go_wp2
    go_ret
    rw [← Hx.out]
    exact ⟨rfl, rfl⟩
  · have hb : folder l = a := by unfold folder; rw [hc]
    have hx : (S l).extract 0 a.length = S a := by
      rw [S_extract, h1]
      simp
    have hlen : a.length + 1 ≤ l.length := by rw [h1]; simp
    rw [hb]
    rw [hp] at X
    have Hx := Lib.hid hx
    clear hc hb hx hp h1 h2
    generalize S a = r at *
    generalize a.length = n at *
    have i1 : (n : Int) ≤ (l.length : Int) := by omega
    generalize S l = s at *
    generalize l.length = m at *
    go_enter Tryd.func30, Tryd.ntmps30
    go_wp2_with fail
    refine X.out.mono ?_
    rintro e w' ⟨rfl, rfl⟩
    go_wp2
    go_ret
    rw [← Hx.out]
    exact ⟨rfl, rfl⟩
theorem stem_any (w : World) (l : List UInt8) (hl : l.length ≤ 1000000000000) :
    Calls Tryd.prog 38 #[.string (S l)] w fun e w' => e = .returned (.string (S (stem l))) ∧ w = w' := by
  have X := Lib.hid (last_any w l 46 hl)
  have hsz := S_size l
  rcases lastPos_cases 46 l with ⟨hp, hc⟩ | ⟨a, b, hc, h1, h2, hp⟩
  · have hb : stem l = l := by unfold stem; rw [hc]
    rw [hb]
    rw [hp] at X
    clear hc hb hp
    generalize S l = s at *
    go_enter Tryd.func38, Tryd.ntmps38
    go_wp2_with fail
    refine X.out.mono ?_
    rintro e w' ⟨rfl, rfl⟩
    go_wp2
    go_ret
    exact ⟨rfl, rfl⟩
  · have hb : stem l = a := by unfold stem; rw [hc]
    have hx : (S l).extract 0 a.length = S a := by
      rw [S_extract, h1]
      simp
    have hlen : a.length + 1 ≤ l.length := by rw [h1]; simp
    rw [hb]
    rw [hp] at X
    have Hx := Lib.hid hx
    clear hc hb hx hp h1 h2
    generalize S a = r at *
    generalize a.length = n at *
    have i1 : (n : Int) ≤ (l.length : Int) := by omega
    generalize S l = s at *
    generalize l.length = m at *
    go_enter Tryd.func38, Tryd.ntmps38
    go_wp2_with fail
    refine X.out.mono ?_
    rintro e w' ⟨rfl, rfl⟩
    go_wp2
    go_ret
    rw [← Hx.out]
    exact ⟨rfl, rfl⟩
theorem ending_any (w : World) (l : List UInt8) (hl : l.length ≤ 1000000000000) :
    Calls Tryd.prog 39 #[.string (S l)] w fun e w' => e = .returned (.string (S (ending l))) ∧ w = w' := by
  have X := Lib.hid (stem_any w l hl)
  have hsz := S_size l
  have hsz2 := S_size (stem l)
  have hx : (S l).extract (stem l).length l.length = S (ending l) := S_tail (stem_ending l)
  have hlen : (stem l).length ≤ l.length := by have := congrArg List.length (stem_ending l); simp at this; omega
  have Hx := Lib.hid hx
  clear hx
  generalize S (ending l) = r at *
  generalize S (stem l) = u at *
  generalize (stem l).length = n at *
  have i1 : (n : Int) ≤ (l.length : Int) := by omega
  generalize S l = s at *
  generalize l.length = m at *
  go_enter Tryd.func39, Tryd.ntmps39
  go_wp2_with fail
  refine X.out.mono ?_
  rintro e w' ⟨rfl, rfl⟩
  go_wp2
  go_ret
  rw [← Hx.out]
  exact ⟨rfl, rfl⟩
theorem with_any (w : World) (f b : List UInt8) (hf : f.length ≤ 1000000000000) (hb : b.length ≤ 1000000000000) :
    Calls Tryd.prog 31 #[.string (S f), .string (S b)] w fun e w' => e = .returned (.string (S (joined f b))) ∧ w = w' := by
  have hsz := S_size f
  have hsz2 := S_size b
  have ht := S_toList f
  by_cases h : f = []
  · have hj : joined f b = b := by unfold joined; rw [if_pos h]
    rw [hj]
    have h0 : S f = ⟨#[]⟩ := by rw [h]; rfl
    rw [h0]
    go_enter Tryd.func31, Tryd.ntmps31
    go_wp2
    go_ret
    exact ⟨rfl, rfl⟩
  · have hj : joined f b = f ++ 47 :: b := by unfold joined; rw [if_neg h]
    rw [hj]
    have hx : S f ++ ⟨#[47]⟩ ++ S b = S (f ++ 47 :: b) := by
      have : (⟨#[47]⟩ : ByteArray) = S [47] := rfl
      rw [this, S_append, S_append]
      simp
    have Hx := Lib.hid hx
    have hne : (f == []) = false := by simp [h]
    clear hx
    go_enter Tryd.func31, Tryd.ntmps31
    go_wp2
    go_ret
    rw [← Hx.out]
    exact ⟨rfl, rfl⟩
end Go.Proofs.YtkffijgmcekboaaDoor

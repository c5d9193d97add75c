/- The reference: names, Check. -/
import Derived.Test.YtkffijgmcekboaaDoorPtRefName
namespace Go.Proofs.YtkffijgmcekboaaDoor
open Go.RowKit
set_option linter.unusedVariables false

/-- How far a text has been taken apart: the pieces, where the next one begins, where it is looked. -/
def NamesAt (l : List UInt8) (done : List (List UInt8)) (f i : Nat) : Prop :=
  (i ≤ l.length ∧ f ≤ i ∧ names l = done ++ names (l.drop f) ∧ (47 : UInt8) ∉ (l.drop f).take (i - f)) ∨ (i = l.length + 1 ∧ f = i ∧ names l = done)
theorem names_start (l : List UInt8) : NamesAt l [] 0 0 := .inl ⟨Nat.zero_le _, Nat.le_refl _, rfl, by simp⟩
theorem names_last {l : List UInt8} {done : List (List UInt8)} {f : Nat} (h : NamesAt l done f l.length) : NamesAt l (done ++ [(l.drop f).take (l.length - f)]) (l.length + 1) (l.length + 1) := by
  rcases h with ⟨h1, h2, h3, h4⟩ | ⟨h1, _⟩
  · right
    refine ⟨rfl, rfl, ?_⟩
    have e : (l.drop f).take (l.length - f) = l.drop f := List.take_of_length_le (by rw [List.length_drop]; omega)
    rw [e] at h4 ⊢
    rw [h3, names_none h4]
  · omega
theorem names_slash {l : List UInt8} {done : List (List UInt8)} {f i : Nat} (h : NamesAt l done f i) (hi : i < l.length) (hc : l.getD i 0 = 47) : NamesAt l (done ++ [(l.drop f).take (i - f)]) (i + 1) (i + 1) := by
  rcases h with ⟨h1, h2, h3, h4⟩ | ⟨h1, _⟩
  · left
    have hx : l.drop f = (l.drop f).take (i - f) ++ 47 :: l.drop (i + 1) := by
      have e1 : l.drop f = (l.drop f).take (i - f) ++ (l.drop f).drop (i - f) := (List.take_append_drop _ _).symm
      rw [List.drop_drop, show f + (i - f) = i by omega, List.drop_eq_getElem_cons hi] at e1
      have e2 : l[i] = 47 := by simpa [List.getD, hi] using hc
      rwa [e2] at e1
    refine ⟨by omega, Nat.le_refl _, ?_, by simp⟩
    rw [h3]
    conv => lhs; arg 2; rw [hx, names_append, names_none h4]
    simp
  · omega
theorem names_on {l : List UInt8} {done : List (List UInt8)} {f i : Nat} (h : NamesAt l done f i) (hi : i < l.length) (hc : l.getD i 0 ≠ 47) : NamesAt l done f (i + 1) := by
  rcases h with ⟨h1, h2, h3, h4⟩ | ⟨h1, _⟩
  · left
    refine ⟨by omega, by omega, h3, ?_⟩
    rw [show i + 1 - f = i - f + 1 by omega, List.take_succ_eq_append_getElem (by rw [List.length_drop]; omega)]
    simp only [List.mem_append, List.mem_singleton, not_or]
    refine ⟨h4, ?_⟩
    rw [List.getElem_drop]
    intro e
    apply hc
    have e3 : f + (i - f) = i := by omega
    simp only [e3] at e
    simp [List.getD, hi, ← e]
  · omega
theorem names_end {l : List UInt8} {done : List (List UInt8)} {f i : Nat} (h : NamesAt l done f i) (hi : l.length < i) : names l = done := by
  rcases h with ⟨h1, _⟩ | ⟨_, _, h3⟩
  · omega
  · exact h3
theorem namesAt_le {l : List UInt8} {done : List (List UInt8)} {f i : Nat} (h : NamesAt l done f i) : f ≤ i := by
  rcases h with ⟨_, h, _⟩ | ⟨_, h, _⟩
  · exact h
  · omega

set_option maxRecDepth 100000 in
set_option maxHeartbeats 1000000 in
theorem rnames_any (w : World) (l : List UInt8) (hl : l.length ≤ 1000) :
    Calls Tryd.prog 44 #[.string (S l)] w fun e w' => ∃ A c n, e = .returned (.slice A n c) ∧ OwnS w' w.heap.size A n c (names l) ∧ Below w.heap.size w w' := by
  have hsz := S_size l
  have Hix := Lib.hid (fun W j hj => run_index_string W l j hj)
  have Hsl := Lib.hid (fun a b => S_extract l a b)
  have hst : OwnS w w.heap.size none 0 0 [] := ⟨rfl, .inl ⟨rfl, rfl⟩⟩
  have Hst := Lib.hid hst
  clear hst
  generalize hs : S l = s at *
  clear hs
  generalize hn : l.length = m at *
  have Hn := Lib.hid hn
  clear hn
  go_enter Tryd.func44, Tryd.ntmps44
  go_wp2
  go_loopw [3, 4, 5] (fun y z x wr => ∃ (A : Option Addr) (c k f i : Nat) (done : List (List UInt8)), y = .slice A k c ∧ z = .int .i64 f ∧ x = .int .i64 i ∧ i ≤ m + 1 ∧ k ≤ i ∧ Hid (NamesAt l done f i) ∧ OwnS wr w.heap.size A k c done ∧ Below w.heap.size w wr) (fun _ _ x _ => m + 1 - (intOf x).toNat)
  case atStart => exact ⟨none, 0, 0, 0, 0, [], rfl, rfl, rfl, Nat.zero_le _, Nat.le_refl _, names_start l, Hst.out, Below.refl _ _⟩
  case round =>
    obtain ⟨A, c, k, f, i, done, rfl, rfl, rfl, hi, hki, hat, hown, hbel⟩ := hrel
    have Ho := Lib.hid hown
    have HB := Lib.hid hbel
    clear hown hbel Hst
    by_cases hlt : i ≤ m
    · have hfi := namesAt_le hat.out
      have hcp := Ho.out.caps
      have hc1 := hcp.1
      have hc2 := hcp.2
      unfold maxLen at hc2
      have hbsz := HB.out.size
      have hx := Hsl.out f i
      have i1 : (i : Int) ≤ (m : Int) := by omega
      have i2 : (f : Int) ≤ (i : Int) := by omega
      clear hcp
      by_cases hcut : i = m ∨ (i < m ∧ l.getD i 0 = 47)
      · have hnext : NamesAt l (done ++ [(l.drop f).take (i - f)]) (i + 1) (i + 1) := by
          rcases hcut with h | ⟨h, h2⟩
          · have h3 := Hn.out
            subst h
            rw [← h3] at hat ⊢
            exact names_last hat.out
          · exact names_slash hat.out (by rw [Hn.out]; exact h) h2
        have Hnext := Lib.hid hnext
        have hb : ((i : Int) == (m : Int)) = true ∨ (((i : Int) == (m : Int)) = false ∧ i < m ∧ nth l i = 47) := by
          rcases hcut with h | ⟨h, h2⟩
          · left
            simp [h]
          · right
            refine ⟨by simp; omega, h, ?_⟩
            unfold nth
            rw [h2]
            rfl
        clear hcut hnext hat
        generalize (l.drop f).take (i - f) = p at *
        have hc1 : (wr.alloc (.cells #[.string (S p)] 9)).cell? ⟨wr.heap.size, 0, none⟩ = some (.string (S p)) := BlkIs1 wr (.string (S p))
        have Hc1 := Lib.hid hc1
        have Hoa := Lib.hid (Ho.out.alloc (.cells #[.string (S p)] 9))
        have Hba := Lib.hid (HB.out.alloc HB.out.size (.cells #[.string (S p)] 9))
        clear hc1
        rcases hb with hb | ⟨hb, hb2, hb3⟩
        · go_wp2_with (at_builtin
                       refine wpList_str_append rfl (.tmp 22) (.tmp 27) rfl w.heap.size A k c done rfl Hoa.out wr.heap.size p rfl Hc1.out (by omega) Hba.out.size ?_
                       intro A2 c2 w2 ho2 hg2
                       have Ho2 := Lib.hid ho2
                       have HB2 := Lib.hid (Hba.out.grown hg2 Hba.out.size fun q hq => (World.ownsRow.lt Hoa.out q hq).1)
                       clear ho2 hg2)
          go_roundw
          case rel => exact ⟨A2, c2, k + 1, i + 1, i + 1, done ++ [p], rfl, by go_num, by go_num, by omega, by omega, Hnext.out, Ho2.out, HB2.out⟩
          case measure => simp [intOf]; omega
        · have hix := fun W => Hix.out W i hb2
          rw [hb3] at hix
          have i3 : (i : Int) < (m : Int) := by omega
          go_wp2_with (at_builtin
                       refine wpList_str_append rfl (.tmp 22) (.tmp 27) rfl w.heap.size A k c done rfl Hoa.out wr.heap.size p rfl Hc1.out (by omega) Hba.out.size ?_
                       intro A2 c2 w2 ho2 hg2
                       have Ho2 := Lib.hid ho2
                       have HB2 := Lib.hid (Hba.out.grown hg2 Hba.out.size fun q hq => (World.ownsRow.lt Hoa.out q hq).1)
                       clear ho2 hg2)
          go_roundw
          case rel => exact ⟨A2, c2, k + 1, i + 1, i + 1, done ++ [p], rfl, by go_num, by go_num, by omega, by omega, Hnext.out, Ho2.out, HB2.out⟩
          case measure => simp [intOf]; omega
      · have hlm : i < m := by
          by_cases h : i = m
          · exact absurd (.inl h) hcut
          · omega
        have hne : l.getD i 0 ≠ 47 := fun h => hcut (.inr ⟨hlm, h⟩)
        have Hnext := Lib.hid (names_on hat.out (by rw [Hn.out]; exact hlm) hne)
        have hix := fun W => Hix.out W i hlm
        have hb : (nth l i == (47 : Int)) = false := by
          unfold nth
          simp only [beq_eq_false_iff_ne, ne_eq]
          intro h
          apply hne
          rw [← UInt8.toNat_inj]
          have : (47 : UInt8).toNat = 47 := rfl
          omega
        have hb2 : ((i : Int) == (m : Int)) = false := by simp; omega
        have i3 : (i : Int) < (m : Int) := by omega
        clear hcut hne hat
        generalize nth l i = y at *
        go_wp2
        go_roundw
        case rel => exact ⟨A, c, k, f, i + 1, done, rfl, rfl, by go_num, by omega, by omega, Hnext.out, Ho.out, HB.out⟩
        case measure => simp [intOf]; omega
    · have he := names_end hat.out (by rw [Hn.out]; omega)
      have i1 : ¬ (i : Int) ≤ (m : Int) := by omega
      have Hhe := Lib.hid he
      clear hat he
      go_wp2
      go_ret
      exact ⟨A, c, k, rfl, by rw [Hhe.out]; exact Ho.out, HB.out⟩
end Go.Proofs.YtkffijgmcekboaaDoor

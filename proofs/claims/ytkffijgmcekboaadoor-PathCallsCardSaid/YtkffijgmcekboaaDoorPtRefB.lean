/- The reference: Check, last, Split, Ending. -/
import Derived.Test.YtkffijgmcekboaaDoorPtRefCheck
namespace Go.Proofs.YtkffijgmcekboaaDoor
open Go.RowKit
open Go.Lib (decDigits)
set_option linter.unusedVariables false

def allTo (L : List (List UInt8)) (i : Nat) : Prop := ∀ j, j < i → isName (L.getD j []) = true
theorem allTo_end {L : List (List UInt8)} (h : allTo L L.length) : L.all isName = true := by
  rw [List.all_eq_true]
  intro x hx
  obtain ⟨j, hj, rfl⟩ := List.getElem_of_mem hx
  have := h j hj
  simpa [List.getD, hj] using this
theorem all_not {L : List (List UInt8)} {i : Nat} (hi : i < L.length) (h : isName (L.getD i []) = false) : L.all isName = false := by
  rw [List.all_eq_false]
  refine ⟨L[i], List.getElem_mem hi, ?_⟩
  simpa [List.getD, hi] using h
theorem names_piece (l : List UInt8) : ∀ p ∈ names l, p.length ≤ l.length := by
  induction l with
  | nil => intro p hp; simp [names] at hp; simp [hp]
  | cons x l ih =>
    intro p hp
    unfold names at hp
    split at hp
    · simp only [List.mem_cons] at hp
      rcases hp with rfl | hp
      · simp
      · have := ih p hp
        simp
        omega
    · cases e : names l with
      | nil => exact absurd e (names_ne l)
      | cons a r =>
        rw [e] at hp ih
        simp only [List.mem_cons] at hp
        rcases hp with rfl | hp
        · have := ih a (by simp)
          simp
          exact this
        · have := ih p (by simp [hp])
          simp
          omega

set_option maxRecDepth 100000 in
theorem rcheck_any (w : World) (l : List UInt8) :
    Calls Tryd.prog 22 #[.string (S l)] w fun e w' => e = .returned (.int .i64 (chk l)) ∧ Nx w w' := by
  have hsz := S_size l
  by_cases h : 64 < l.length
  · have hc : chk l = 3 := by unfold chk; rw [if_pos h]
    rw [hc]
    have i1 : (64 : Int) < (l.length : Int) := by omega
    clear hc
    generalize S l = s at *
    generalize l.length = n at *
    go_enter Tryd.func22, Tryd.ntmps22
    go_wp2
    go_ret
    exact ⟨rfl, Nx.refl _⟩
  · have hc : chk l = if decide ((names l).length ≤ 4) && (names l).all isName then 0 else 2 := by
      unfold chk
      rw [if_neg h]
      unfold isPath
      rw [decide_eq_true (show l.length ≤ 64 by omega), Bool.true_and]
    have hpc := names_piece l
    have X := Lib.hid (rnames_any w l (by omega))
    have i1 : ¬ (64 : Int) < (l.length : Int) := by omega
    have hl64 : l.length ≤ 64 := by omega
    have Hall : Hid ((names l).all isName = false → chk l = 2) := fun h => by rw [hc, h, Bool.and_false]; rfl
    have Hlong : Hid (¬ (names l).length ≤ 4 → chk l = 2) := fun h => by rw [hc, decide_eq_false h, Bool.false_and]; rfl
    have Hgood : Hid ((names l).all isName = true → (names l).length ≤ 4 → chk l = 0) := fun h1 h2 => by rw [hc, h1, decide_eq_true h2]; rfl
    clear hc h
    generalize names l = L at *
    generalize chk l = R at *
    generalize S l = s at *
    have hcnt : Hid (∀ j, j < L.length → (L.getD j []).length ≤ 64) := fun j hj => by
      have := hpc (L.getD j []) (by simp [List.getD, hj])
      omega
    clear hpc
    generalize l.length = n at *
    go_enter Tryd.func22, Tryd.ntmps22
    go_wp2_with fail
    refine X.out.mono ?_
    rintro e w1 ⟨A, c, k, rfl, hown, hb⟩
    have hk := hown.len
    have hcp := hown.caps
    have hc1 := hcp.1
    have hc2 := hcp.2
    unfold maxLen at hc2
    have Ho := Lib.hid hown
    have HB : Hid (Nx w w1) := hb
    have Hk := Lib.hid hk
    clear hown hb X hk hcp
    go_wp2
    go_loopw [4] (fun x wr => ∃ i : Nat, x = .int .i64 i ∧ i ≤ k ∧ w1 = wr ∧ Hid (allTo L i)) (fun x _ => k - (intOf x).toNat)
    case atStart => exact ⟨0, rfl, Nat.zero_le _, rfl, fun j hj => absurd hj (by omega)⟩
    case round =>
      obtain ⟨i, rfl, hi, rfl, hok⟩ := hrel
      by_cases hlt : i < k
      · obtain ⟨g, rfl, hg1, hg2⟩ := Ho.out.block (by omega)
        have hcell := Ho.out.cell i hlt
        have hlen := hcnt.out i (by rw [Hk.out]; exact hlt)
        have hR : isName (L.getD i []) = false → R = 2 := fun h => Hall.out (all_not (by rw [Hk.out]; exact hlt) h)
        have hnx : isName (L.getD i []) = true → allTo L (i + 1) := fun h j hj => by
          by_cases e : j = i
          · rw [e]; exact h
          · exact hok.out j (by omega)
        generalize L.getD i [] = p at *
        have Y := Lib.hid (fun W => rname_any W p (by omega))
        have HR := Lib.hid hR
        have Hnx := Lib.hid hnx
        clear hR hnx hok hlen
        generalize S p = sp at *
        have i3 : (i : Int) < (k : Int) := by omega
        go_wp2_with fail
        refine (Y.out _).mono ?_
        rintro e w2 ⟨rfl, rfl⟩
        clear Y
        cases hn : isName p with
        | false =>
          have hR2 := HR.out hn
          subst hR2
          clear hn
          go_wp2
          go_ret
          exact ⟨rfl, HB.out⟩
        | true =>
          have Hg := Lib.hid (Hnx.out hn)
          clear hn Hnx HR
          go_wp2
          go_roundw
          case rel => exact ⟨i + 1, by go_num, by omega, by first | trivial | rfl, Hg.out⟩
          case measure => simp [intOf]; omega
      · obtain rfl : i = k := by omega
        have hall := allTo_end (L := L) (by rw [Hk.out]; exact hok.out)
        clear hok
        by_cases h4 : i ≤ 4
        · have hR := Hgood.out hall (by rw [Hk.out]; exact h4)
          subst hR
          have i3 : ¬ (4 : Int) < (i : Int) := by omega
          clear hall
          go_wp2
          go_ret
          exact ⟨rfl, HB.out⟩
        · have hR := Hlong.out (by rw [Hk.out]; exact h4)
          subst hR
          have i3 : (4 : Int) < (i : Int) := by omega
          clear hall
          go_wp2
          go_ret
          exact ⟨rfl, HB.out⟩

/-! ### last -/
theorem lastPos_hit {c : UInt8} {l : List UInt8} {i : Nat} (hi : i < l.length) (hc : l.getD i 0 = c) (hno : ∀ j, i < j → l[j]? ≠ some c) : lastPos c l = i := by
  have h1 : l[i]? = some c := by
    rw [List.getElem?_eq_getElem hi]
    simpa [List.getD, hi] using hc
  rcases lastPos_cases c l with ⟨_, h⟩ | ⟨a, b, _, e, hb, hp⟩
  · exact absurd (List.mem_of_getElem? h1) (cutL_none.1 h)
  · rw [hp]
    have hge : ¬ a.length < i := by
      intro hlt
      rw [e, List.getElem?_append_right (by omega)] at h1
      obtain ⟨k, hk⟩ : ∃ k, i - a.length = k + 1 := ⟨i - a.length - 1, by omega⟩
      rw [hk, List.getElem?_cons_succ] at h1
      exact hb (List.mem_of_getElem? h1)
    have hle : ¬ i < a.length := by
      intro hlt
      exact hno a.length hlt (by rw [e]; simp)
    congr 1
    omega
theorem lastPos_none {c : UInt8} {l : List UInt8} (h : ∀ j : Nat, l[j]? ≠ some c) : lastPos c l = -1 := by
  rcases lastPos_cases c l with ⟨h1, _⟩ | ⟨a, b, _, e, hb, hp⟩
  · exact h1
  · exact absurd (by rw [e]; simp) (h a.length)
set_option maxRecDepth 100000 in
theorem rlast_any (w : World) (l : List UInt8) (c : UInt8) (hl : l.length ≤ 1000000) :
    Calls Tryd.prog 37 #[.string (S l), .int .u8 c.toNat] w fun e w' => e = .returned (.int .i64 (lastPos c l)) ∧ w = w' := by
  have hsz := S_size l
  have Hix := Lib.hid (fun W j hj => run_index_string W l j hj)
  have Hhit : Hid (∀ i, i < l.length → l.getD i 0 = c → (∀ j, i < j → l[j]? ≠ some c) → lastPos c l = i) := fun i => lastPos_hit
  have Hnone : Hid ((∀ j : Nat, l[j]? ≠ some c) → lastPos c l = -1) := lastPos_none
  have Hnil : Hid (∀ j : Nat, l.length ≤ j → l[j]? ≠ some c) := fun j hj => by rw [List.getElem?_eq_none hj]; simp
  have Hget : Hid (∀ j, j < l.length → l[j]? = some (l.getD j 0)) := fun j hj => by simp [List.getD, hj]
  generalize lastPos c l = R at *
  generalize hs : S l = s at *
  clear hs
  generalize hn : l.length = m at *
  have Hn := Lib.hid hn
  clear hn
  have c256 : ((c.toNat : Nat) : Int) ≤ 255 := by have := c.toNat_lt; omega
  generalize hcn : c.toNat = cn at *
  have Hcn := Lib.hid hcn
  clear hcn
  go_enter Tryd.func37, Tryd.ntmps37
  go_wp2
  go_loopw [5] (fun x wr => ∃ i : Nat, x = .int .i64 ((i : Int) - 1) ∧ i ≤ m ∧ w = wr ∧ Hid (∀ j : Nat, i ≤ j → l[j]? ≠ some c)) (fun x _ => (intOf x + 1).toNat)
  case atStart => exact ⟨m, rfl, Nat.le_refl _, rfl, Hnil.out⟩
  case round =>
    obtain ⟨i, rfl, hi, rfl, hok⟩ := hrel
    cases i with
    | zero =>
      have hR := Hnone.out (fun j => hok.out j (Nat.zero_le _))
      subst hR
      clear hok
      have i1 : ¬ (0 : Int) ≤ ((0 : Nat) : Int) - 1 := by omega
      go_wp2
      go_ret
      exact ⟨rfl, rfl⟩
    | succ i =>
      have e1 : ((i + 1 : Nat) : Int) - 1 = (i : Int) := by omega
      have hix := fun W => Hix.out W i (by omega)
      have e0 : nth l i = (((l.getD i 0).toNat : Nat) : Int) := rfl
      rw [e0] at hix
      rw [e1]
      have i1 : (0 : Int) ≤ (i : Int) := by omega
      have i2 : (i : Int) < (m : Int) := by omega
      by_cases hc : l.getD i 0 = c
      · have hR := Hhit.out i (by omega) hc (fun j hj => hok.out j (by omega))
        subst hR
        have hy : (l.getD i 0).toNat = cn := by rw [hc, Hcn.out]
        rw [hy] at hix
        clear hok hc hy e0 e1
        go_wp2
        go_ret
        exact ⟨rfl, rfl⟩
      · have hy : ((((l.getD i 0).toNat : Nat) : Int) == (cn : Int)) = false := by
          simp only [beq_eq_false_iff_ne, ne_eq]
          intro h
          apply hc
          rw [← UInt8.toNat_inj, Hcn.out]
          omega
        have hnext : ∀ j : Nat, i ≤ j → l[j]? ≠ some c := fun j hj => by
          by_cases e : j = i
          · subst e
            rw [Hget.out j (by omega)]
            simpa using hc
          · exact hok.out j (by omega)
        have Hnext := Lib.hid hnext
        clear hok hc e0 e1 hnext
        generalize (l.getD i 0).toNat = y at *
        go_wp2
        go_roundw
        case rel => exact ⟨i, by go_num, by omega, by first | trivial | rfl, Hnext.out⟩
        case measure => simp [intOf]
end Go.Proofs.YtkffijgmcekboaaDoor

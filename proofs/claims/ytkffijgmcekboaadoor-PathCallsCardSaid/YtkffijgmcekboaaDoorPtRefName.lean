/- The reference: Name. -/
import Derived.Test.YtkffijgmcekboaaDoorPtStrs
namespace Go.Proofs.YtkffijgmcekboaaDoor
open Go.RowKit
set_option linter.unusedVariables false

theorem run_index_string (w : World) (l : List UInt8) (j : Nat) (hj : j < l.length) : (Instr.index 9 (.string (S l)) (.int .i64 (j : Int))).run Tryd.prog w = .ok (.int .u8 (nth l j)) w := by
  have hb : l[j]? = some l[j] := List.getElem?_eq_getElem hj
  have hg : (⟨l.toArray⟩ : ByteArray)[j]? = some l[j] := by
    have h2 : j < (⟨l.toArray⟩ : ByteArray).size := hj
    rw [ByteArray.getElem?_lt' _ _ h2]
    have := (List.getElem?_eq_some_iff.1 hb).2
    exact congrArg some this
  have h0 : (0 : Int) ≤ (j : Int) := by omega
  rw [nth_eq l j hj]
  unfold S
  simp [Instr.index, asIntOf, Sem.run_bind, run_underlying Tryd.underlying9 w, h0, hg]

/-- The letters, by classes. -/
theorem okCh_classes (c : UInt8) : (okCh c = true ∧ ((97 ≤ c.toNat ∧ c.toNat ≤ 122) ∨ (48 ≤ c.toNat ∧ c.toNat ≤ 57) ∨ c.toNat = 45 ∨ c.toNat = 95 ∨ c.toNat = 46)) ∨
    (okCh c = false ∧ (c.toNat < 45 ∨ c.toNat = 47 ∨ (57 < c.toNat ∧ c.toNat < 95) ∨ c.toNat = 96 ∨ 122 < c.toNat)) := by
  have : ∀ j : Fin 256, (okCh (UInt8.ofNat j.val) = true ∧ ((97 ≤ j.val ∧ j.val ≤ 122) ∨ (48 ≤ j.val ∧ j.val ≤ 57) ∨ j.val = 45 ∨ j.val = 95 ∨ j.val = 46)) ∨
    (okCh (UInt8.ofNat j.val) = false ∧ (j.val < 45 ∨ j.val = 47 ∨ (57 < j.val ∧ j.val < 95) ∨ j.val = 96 ∨ 122 < j.val)) := by decide +kernel
  have h := this ⟨c.toNat, c.toNat_lt⟩
  simp only [UInt8.ofNat_toNat] at h
  exact h
/-- The first i bytes may stand in a name. -/
def nameTo (l : List UInt8) (i : Nat) : Prop := okTo l i ∧ (0 < i → l.getD 0 0 ≠ 46)
theorem name_end {l : List UInt8} (h : nameTo l l.length) : isName l = (decide (1 ≤ l.length) && decide (l.length ≤ 24)) := by
  unfold isName
  rw [okTo_all h.1, Bool.and_true]
  cases l with
  | nil => rfl
  | cons a l =>
    have := h.2 (by simp)
    have h2 : (some a != some 46) = true := by simpa [bne_iff_ne, List.getD] using this
    rw [List.head?_cons, h2, Bool.and_true]
theorem name_bad {l : List UInt8} {i : Nat} (hi : i < l.length) (h : okCh (l.getD i 0) = false) : isName l = false := by
  unfold isName
  rw [okTo_not hi h, Bool.and_false]
theorem name_dot {l : List UInt8} (hl : 0 < l.length) (h : l.getD 0 0 = 46) : isName l = false := by
  unfold isName
  cases l with
  | nil => simp at hl
  | cons a l =>
    simp only [List.getD, List.getElem?_cons_zero, Option.getD_some] at h
    subst h
    simp

set_option maxRecDepth 100000 in
set_option maxHeartbeats 4000000 in
theorem rname_any (w : World) (l : List UInt8) (hl : l.length ≤ 1000000) :
    Calls Tryd.prog 24 #[.string (S l)] w fun e w' => e = .returned (.bool (isName l)) ∧ w = w' := by
  have hsz := S_size l
  have hix := fun W j hj => run_index_string W l j hj
  have Hix := Lib.hid hix
  have Hend : Hid (nameTo l l.length → isName l = (decide (1 ≤ l.length) && decide (l.length ≤ 24))) := name_end
  have Hbad : Hid (∀ i, i < l.length → okCh (l.getD i 0) = false → isName l = false) := fun i => name_bad
  have Hdot : Hid (0 < l.length → l.getD 0 0 = 46 → isName l = false) := name_dot
  clear hix
  generalize isName l = R at *
  generalize S l = s at *
  generalize hn : l.length = m at *
  have Hn := Lib.hid hn
  clear hn
  go_enter Tryd.func24, Tryd.ntmps24
  go_wp2
  go_loopw [3] (fun x wr => ∃ i : Nat, x = .int .i64 i ∧ i ≤ m ∧ wr = w ∧ Hid (nameTo l i)) (fun x _ => m - (intOf x).toNat)
  case atStart => exact ⟨0, rfl, Nat.zero_le _, rfl, fun j hj => absurd hj (by omega), fun h => absurd h (by omega)⟩
  case round =>
    obtain ⟨i, rfl, hi, rfl, hok⟩ := hrel
    by_cases hlt : i < m
    · have hi1 := fun W => Hix.out W i hlt
      have e0 : nth l i = (((l.getD i 0).toNat : Nat) : Int) := rfl
      rw [e0] at hi1
      have hbad := Hbad.out i hlt
      have hcl := okCh_classes (l.getD i 0)
      have hnext : okCh (l.getD i 0) = true → (i = 0 → (l.getD i 0).toNat ≠ 46) → nameTo l (i + 1) := fun h1 h2 => by
        refine ⟨fun j hj => ?_, fun _ => ?_⟩
        · by_cases e : j = i
          · rw [e]; exact h1
          · exact hok.out.1 j (by omega)
        · by_cases e : i = 0
          · have h3 := h2 e
            subst e
            intro h4
            rw [h4] at h3
            exact h3 rfl
          · exact hok.out.2 (by omega)
      have hdot : i = 0 → (l.getD i 0).toNat = 46 → R = false := fun h1 h2 => by
        subst h1
        exact Hdot.out hlt (by rw [← UInt8.toNat_inj, h2]; rfl)
      have b1 : (l.getD i 0).toNat < 256 := (l.getD i 0).toNat_lt
      generalize okCh (l.getD i 0) = K at *
      generalize (l.getD i 0).toNat = y at *
      have Hnext := Lib.hid hnext
      clear e0 hok hnext
      rcases hcl with ⟨hK, hcl⟩ | ⟨hK, hcl⟩
      · subst hK
        rcases hcl with ⟨h1, h2⟩ | ⟨h1, h2⟩ | h1 | h1 | h1
        · have qa : decide ((y : Int) < 97) = false := by simp; omega
          have qb : decide ((122 : Int) < (y : Int)) = false := by simp; omega
          clear hbad hdot
          have Hg := Lib.hid (Hnext.out rfl (by omega))
          clear Hnext
          go_wp2
          go_roundw
          case rel => exact ⟨i + 1, by go_num, by omega, by first | trivial | rfl, Hg.out⟩
          case measure => simp [intOf]; omega
        · have qa : decide ((y : Int) < 97) = true := by simp; omega
          have qc : decide ((y : Int) < 48) = false := by simp; omega
          have qd : decide ((57 : Int) < (y : Int)) = false := by simp; omega
          clear hbad hdot
          have Hg := Lib.hid (Hnext.out rfl (by omega))
          clear Hnext
          go_wp2
          go_roundw
          case rel => exact ⟨i + 1, by go_num, by omega, by first | trivial | rfl, Hg.out⟩
          case measure => simp [intOf]; omega
        · have qa : decide ((y : Int) < 97) = true := by simp; omega
          have qc : decide ((y : Int) < 48) = true := by simp; omega
          have qe : ((y : Int) != 45) = false := by simp; omega
          clear hbad hdot
          have Hg := Lib.hid (Hnext.out rfl (by omega))
          clear Hnext
          go_wp2
          go_roundw
          case rel => exact ⟨i + 1, by go_num, by omega, by first | trivial | rfl, Hg.out⟩
          case measure => simp [intOf]; omega
        · have qa : decide ((y : Int) < 97) = true := by simp; omega
          have qd : decide ((57 : Int) < (y : Int)) = true := by simp; omega
          have qc : decide ((y : Int) < 48) = false := by simp; omega
          have qe : ((y : Int) != 45) = true := by simp [bne_iff_ne]; omega
          have qf : ((y : Int) != 95) = false := by simp; omega
          clear hbad hdot
          have Hg := Lib.hid (Hnext.out rfl (by omega))
          clear Hnext
          go_wp2
          go_roundw
          case rel => exact ⟨i + 1, by go_num, by omega, by first | trivial | rfl, Hg.out⟩
          case measure => simp [intOf]; omega
        · have qa : decide ((y : Int) < 97) = true := by simp; omega
          have qc : decide ((y : Int) < 48) = true := by simp; omega
          have qd : decide ((57 : Int) < (y : Int)) = false := by simp; omega
          have qe : ((y : Int) != 45) = true := by simp [bne_iff_ne]; omega
          have qf : ((y : Int) != 95) = true := by simp [bne_iff_ne]; omega
          have qg : ((y : Int) != 46) = false := by simp; omega
          by_cases hi0 : i = 0
          · have hR := hdot hi0 h1
            subst hR
            have hi1z : ((i : Int) == 0) = true := by simp; omega
            clear hbad hdot Hnext hi0
            go_wp2
            go_ret
            exact ⟨rfl, rfl⟩
          · have hi1 : ((i : Int) == 0) = false := by simp; omega
            clear hbad hdot
            have Hg := Lib.hid (Hnext.out rfl (by omega))
            clear Hnext
            go_wp2
            go_roundw
            case rel => exact ⟨i + 1, by go_num, by omega, by first | trivial | rfl, Hg.out⟩
            case measure => simp [intOf]; omega
      · have hR := hbad hK
        subst hR
        subst hK
        rcases hcl with h1 | h1 | ⟨h1, h2⟩ | h1 | h1
        · have qa : decide ((y : Int) < 97) = true := by simp; omega
          have qc : decide ((y : Int) < 48) = true := by simp; omega
          have qe : ((y : Int) != 45) = true := by simp [bne_iff_ne]; omega
          have qf : ((y : Int) != 95) = true := by simp [bne_iff_ne]; omega
          have qg : ((y : Int) != 46) = true := by simp [bne_iff_ne]; omega
          clear hbad hdot Hnext
          go_wp2
          go_ret
          exact ⟨rfl, rfl⟩
        · have qa : decide ((y : Int) < 97) = true := by simp; omega
          have qc : decide ((y : Int) < 48) = true := by simp; omega
          have qd : decide ((57 : Int) < (y : Int)) = false := by simp; omega
          have qe : ((y : Int) != 45) = true := by simp [bne_iff_ne]; omega
          have qf : ((y : Int) != 95) = true := by simp [bne_iff_ne]; omega
          have qg : ((y : Int) != 46) = true := by simp [bne_iff_ne]; omega
          clear hbad hdot Hnext
          go_wp2
          go_ret
          exact ⟨rfl, rfl⟩
        · have qa : decide ((y : Int) < 97) = true := by simp; omega
          have qc : decide ((y : Int) < 48) = false := by simp; omega
          have qd : decide ((57 : Int) < (y : Int)) = true := by simp; omega
          have qe : ((y : Int) != 45) = true := by simp [bne_iff_ne]; omega
          have qf : ((y : Int) != 95) = true := by simp [bne_iff_ne]; omega
          have qg : ((y : Int) != 46) = true := by simp [bne_iff_ne]; omega
          clear hbad hdot Hnext
          go_wp2
          go_ret
          exact ⟨rfl, rfl⟩
        · have qa : decide ((y : Int) < 97) = true := by simp; omega
          have qc : decide ((y : Int) < 48) = false := by simp; omega
          have qd : decide ((57 : Int) < (y : Int)) = true := by simp; omega
          have qe : ((y : Int) != 45) = true := by simp [bne_iff_ne]; omega
          have qf : ((y : Int) != 95) = true := by simp [bne_iff_ne]; omega
          have qg : ((y : Int) != 46) = true := by simp [bne_iff_ne]; omega
          clear hbad hdot Hnext
          go_wp2
          go_ret
          exact ⟨rfl, rfl⟩
        · have qa : decide ((y : Int) < 97) = false := by simp; omega
          have qb : decide ((122 : Int) < (y : Int)) = true := by simp; omega
          have qc : decide ((y : Int) < 48) = false := by simp; omega
          have qd : decide ((57 : Int) < (y : Int)) = true := by simp; omega
          have qe : ((y : Int) != 45) = true := by simp [bne_iff_ne]; omega
          have qf : ((y : Int) != 95) = true := by simp [bne_iff_ne]; omega
          have qg : ((y : Int) != 46) = true := by simp [bne_iff_ne]; omega
          clear hbad hdot Hnext
          go_wp2
          go_ret
          exact ⟨rfl, rfl⟩
    · obtain rfl : i = m := by omega
      have hR := Hend.out hok.out
      subst hR
      have d1 : decide ((1 : Int) ≤ (i : Int)) = decide (1 ≤ i) := by congr 1; simp; omega
      have d2 : decide ((i : Int) ≤ 24) = decide (i ≤ 24) := by congr 1; simp; omega
      clear hok
      go_wp2
      all_goals go_ret
      all_goals exact ⟨by simp_all, rfl⟩
end Go.Proofs.YtkffijgmcekboaaDoor

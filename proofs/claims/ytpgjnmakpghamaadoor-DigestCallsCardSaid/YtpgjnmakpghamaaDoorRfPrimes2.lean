/- The reference: the walk of primes. -/
import Derived.Test.YtpgjnmakpghamaaDoorRfPrimes
namespace Go.Proofs.YtpgjnmakpghamaaDoor
open Go.RowKit
set_option linter.unusedVariables false

def fineTo (p j : Nat) : Bool := (primesL.take j).all (fun q => p % q != 0)
theorem fine_succ (p j : Nat) (h : j < 64) : fineTo p (j + 1) = (fineTo p j && (p % primesL.getD j 0 != 0)) := by
  have hl : j < primesL.length := h
  unfold fineTo
  rw [List.take_succ_eq_append_getElem hl, List.all_append, List.getD, List.getElem?_eq_getElem hl]
  simp
theorem take_next (k p : Nat) (h : k < 64) (hp : primesL.getD k 0 = p) : primesL.take k ++ [p] = primesL.take (k + 1) := by
  have hl : k < primesL.length := h
  rw [List.take_succ_eq_append_getElem hl, ← hp, List.getD, List.getElem?_eq_getElem hl]
  rfl

set_option maxRecDepth 100000 in
theorem primes_any (w : World) (n : Nat) (hn : n ≤ 64) :
    Calls Tryd.prog 40 #[.int .i64 n] w fun e w' => ∃ A c, e = .returned (.slice A n c) ∧ Own64 w' w.heap.size A n c (primesL.take n) ∧ Below w.heap.size w w' := by
  have hst : Own64 w w.heap.size none 0 0 (primesL.take 0) := ⟨rfl, .inl ⟨rfl, rfl⟩⟩
  have Hst := Lib.hid hst
  clear hst
  go_enter Tryd.func40, Tryd.ntmps40
  go_wp2
  go_loopw [3, 4] (fun y x wr => ∃ (A : Option Addr) (c p k : Nat), y = .slice A k c ∧ x = .int .u64 p ∧ Hid (k = cntP p) ∧ k ≤ n ∧ 2 ≤ p ∧ p ≤ 312 ∧ Own64 wr w.heap.size A k c (primesL.take k) ∧ Below w.heap.size w wr) (fun _ x _ => 313 - (intOf x).toNat)
  case atStart => exact ⟨none, 0, 2, 0, rfl, rfl, by unfold Hid; decide +kernel, Nat.zero_le _, Nat.le_refl _, by omega, Hst.out, Below.refl _ _⟩
  case round =>
    obtain ⟨A, c, p, k, rfl, rfl, hk, hkn, hp2, hp312, hown, hbel⟩ := hrel
    have Ho := Lib.hid hown
    have HB := Lib.hid hbel
    clear hown hbel Hst
    by_cases hlt : k < n
    · have d1 : decide ((k : Int) < n) = true := by simp; omega
      have hp311 : p ≤ 311 := by
        by_cases e : p = 312
        · have := hk.out
          rw [e, cnt_end] at this
          omega
        · omega
      have Hstep := Lib.hid (cnt_step p hp311 hp2)
      have hcp := Ho.out.caps
      have hc1 := hcp.1
      have hc2 := hcp.2
      unfold maxLen at hc2
      have hbsz := HB.out.size
      clear hcp
      go_wp2
      go_loopw [5, 6] (fun y x W => ∃ j : Nat, y = .bool (fineTo p j) ∧ x = .int .i64 j ∧ j ≤ k ∧ wr = W) (fun _ x _ => k - (intOf x).toNat)
      case atStart => exact ⟨0, rfl, rfl, Nat.zero_le _, rfl⟩
      case round =>
        obtain ⟨j, rfl, rfl, hj, rfl⟩ := hrel
        by_cases hjk : j < k
        · obtain ⟨g, rfl, hg1, hg2⟩ := Ho.out.block (by omega)
          have hcell := Ho.out.cell j hjk
          have hq := primes_pos j (by omega)
          have hfs := fine_succ p j (by omega)
          have hgt : (primesL.take k).getD j 0 = primesL.getD j 0 := by
            rw [List.getD, List.getD, List.getElem?_take_of_lt hjk]
          rw [hgt] at hcell
          have hq311 := primes_le j
          generalize primesL.getD j 0 = q at *
          have Hfs := Lib.hid hfs
          have d2 : decide ((j : Int) < k) = true := by simp; omega
          clear hfs hgt
          have hq0 : ¬ (q : Int) = 0 := by omega
          by_cases hf : fineTo p j = true
          · rw [hf] at Hfs ⊢
            have hpq : ((p : Int) % (q : Int) != 0) = (p % q != 0) := by
              rw [← Int.natCast_emod]
              generalize p % q = r
              rw [Bool.eq_iff_iff]
              simp
            have Hpq := Lib.hid hpq
            clear hpq
            go_wp2
            rw [Hpq.out]
            go_roundw
            case rel => exact ⟨j + 1, by rw [Hfs.out]; rfl, by congr 1, by omega, trivial⟩
            case measure => simp [intOf]; omega
          · rw [Bool.not_eq_true] at hf
            rw [hf] at Hfs ⊢
            go_wp2
            go_roundw
            case rel => exact ⟨j + 1, by rw [Hfs.out]; rfl, by congr 1, by omega, trivial⟩
            case measure => simp [intOf]; omega
        · obtain rfl : k = j := by omega
          have d2 : decide ((k : Int) < k) = false := by simp
          have hst := Hstep.out.2.1
          have hpr := Hstep.out.2.2
          rw [← hk.out] at hst hpr
          by_cases hf : fineTo p k = true
          · have hpr2 := take_next k p (by omega) (hpr hf)
            have hst2 : k + 1 = cntP (p + 1) := by rw [hst]; unfold fineTo at hf; rw [if_pos hf]
            have Hpr := Lib.hid hpr2
            have Hst := Lib.hid hst2
            have hcp := BlkIs.cell (BlkIs.new wr 55 #[.int .u64 (p : Int)]) 0
            have hc1 : (wr.alloc (.cells #[.int .u64 (p : Int)] 55)).cell? ⟨wr.heap.size, 0, none⟩ = some (.int .u64 (p : Int)) := hcp
            have Hc1 := Lib.hid hc1
            have Hoa := Lib.hid (Ho.out.alloc (.cells #[.int .u64 (p : Int)] 55))
            have Hba := Lib.hid (HB.out.alloc HB.out.size (.cells #[.int .u64 (p : Int)] 55))
            rw [hf]
            clear hst hpr hf hpr2 hst2 hcp hc1
            go_wp2_with (at_builtin
                         refine wpList_u64_append rfl (.tmp 30) (.tmp 32) rfl w.heap.size A k c (primesL.take k) rfl Hoa.out wr.heap.size p rfl Hc1.out (by omega) Hba.out.size ?_
                         intro A2 c2 w2 ho2 hg2
                         rw [Hpr.out] at ho2
                         have Ho2 := Lib.hid ho2
                         have HB2 := Lib.hid (Hba.out.grown hg2 Hba.out.size fun q hq => (World.ownsRow.lt Hoa.out q hq).1)
                         clear ho2 hg2)
            go_roundw
            case rel => exact ⟨A2, c2, p + 1, k + 1, rfl, by congr 1, Hst.out, by omega, by omega, by omega, Ho2.out, HB2.out⟩
            case measure => simp [intOf]; omega
          · have hst2 : k = cntP (p + 1) := by rw [hst]; unfold fineTo at hf; rw [if_neg hf]; rfl
            have Hst := Lib.hid hst2
            rw [Bool.not_eq_true] at hf
            rw [hf]
            clear hst hpr hf hst2
            go_wp2
            go_roundw
            case rel => exact ⟨A, c, p + 1, k, rfl, by congr 1, Hst.out, by omega, by omega, by omega, Ho.out, HB.out⟩
            case measure => simp [intOf]; omega
    · obtain rfl : n = k := by omega
      have d1 : decide ((n : Int) < n) = false := by simp
      go_wp2
      go_ret
      exact ⟨A, c, rfl, Ho.out, HB.out⟩
end Go.Proofs.YtpgjnmakpghamaaDoor

/- Walks of the document's answers: its readers. next. -/
import Derived.Test.YtlmfjalkgapcgaaDoorDoc
namespace Go.Proofs.YtlmfjalkgapcgaaDoor
open Go.RowKit
set_option linter.unusedVariables false

/-- What is left to be read, x being what the bytes from at_ up to j gave. -/
def dleftR (l : List UInt8) (at_ x j : Nat) : Nat × Nat × Nat := if 144115188075855871 < x then (0, 0, 4) else numGo x (j - at_) (l.drop j)
theorem drop_cons (l : List UInt8) (i : Nat) (h : i < l.length) : l.drop i = l[i] :: l.drop (i + 1) := List.drop_eq_getElem_cons h

/-- The document's next: the number, where it ends (0 where there is none), the error. -/
def dnextV (at_ : Nat) (r : Nat × Nat × Nat) : Value := .tuple #[.int .u64 (r.1 : Nat), .int .i64 (if r.2.2 = 0 then ((at_ + r.2.1 : Nat) : Int) else 0), .int .i64 (r.2.2 : Nat)]

set_option maxRecDepth 100000 in
set_option maxHeartbeats 2000000 in
theorem dnext_any (w : World) (B g n c at_ : Nat) (A : Option Addr) (l : List UInt8) (er : Int) (h : DRdr w B g A n c l at_ er) :
    Calls Tryd.prog 77 #[.pointer (some ⟨g, 0, none⟩)] w fun e w' => e = .returned (dnextV at_ (num (l.drop at_))) ∧ w = w' := by
  have h0 := h.c0
  have h1 := h.c1
  have hat := h.hat
  have hcap := h.own.byt.cap
  have hle := h.own.byt.le
  have hlen := Lib.hid h.own.len
  have hlies := Lib.hid h.own.byt.lies
  unfold maxLen at hcap
  have hcap2 : n ≤ 9223372036854775807 := by omega
  have hstart : Hid (num (l.drop at_) = dleftR l at_ 0 at_) := by unfold Hid dleftR; rw [if_neg (by omega), Nat.sub_self]; rfl
  clear h hcap hle
  go_enter Tryd.func77, Tryd.ntmps77
  go_wp2
  go_loopw [5, 6] (fun x i wr => ∃ (x1 j : Nat), x = .int .u64 x1 ∧ i = .int .i64 j ∧ at_ ≤ j ∧ j ≤ n ∧ x1 < 18446744073709551616 ∧ Hid (j = at_ → x1 = 0) ∧ wr = w ∧ Hid (num (l.drop at_) = dleftR l at_ x1 j)) (fun _ i _ => n - (intOf i).toNat)
  case atStart => exact ⟨0, at_, rfl, rfl, Nat.le_refl _, hat, by omega, fun _ => rfl, rfl, hstart⟩
  case round =>
    obtain ⟨x1, j, rfl, rfl, haj, hj, hx, Hk0, rfl, hrel⟩ := hrel
    clear hstart
    by_cases hlt : j < n
    · obtain ⟨b, o, rfl, _, hc⟩ := hlies.out (by omega)
      have hc1 := hc j hlt
      have hjl : j < l.length := by rw [hlen.out]; exact hlt
      have hn1 : nth l j = (l[j]'hjl).toNat := nth_eq _ _ _
      have hdrop := drop_cons l j hjl
      generalize l[j]'hjl = y at *
      have hy := y.toNat_lt
      rw [hn1] at hc1
      have hrel2 := hrel.out
      unfold dleftR at hrel2
      rw [hdrop] at hrel2
      unfold numGo at hrel2
      generalize y.toNat = z at *
      have Hrel2 := Lib.hid hrel2
      clear hrel2 hn1 hdrop hc hjl hrel
      have b2 : decide ((144115188075855872 : Int) ≤ x1) = decide (144115188075855871 < x1) := by
        rw [decide_eq_decide]
        omega
      by_cases hfirst : j = at_ ∧ z = 128
      · obtain ⟨rfl, rfl⟩ := hfirst
        have hx0 := Hk0.out rfl
        subst hx0
        have hres := Hrel2.out
        rw [if_neg (by omega), if_pos ⟨by omega, rfl⟩] at hres
        have Hres := Lib.hid hres
        clear hres b2 Hrel2 Hk0
        go_wp2
        go_ret3
        rw [Hres.out]
        exact ⟨rfl, rfl⟩
      · by_cases hbig : 144115188075855871 < x1
        · have hres := Hrel2.out
          rw [if_pos hbig] at hres
          have Hres := Lib.hid hres
          have b3 : decide ((144115188075855872 : Int) ≤ x1) = true := by rw [b2]; simpa using hbig
          clear hres b2 Hrel2 Hk0
          by_cases hja : j = at_
          · subst hja
            have b1 : ((z : Int) == 128) = false := by simp; omega
            clear hfirst
            go_wp2
            go_ret3
            rw [Hres.out]
            exact ⟨rfl, rfl⟩
          · have b0 : ((j : Int) == (at_ : Int)) = false := by simp; omega
            clear hfirst
            go_wp2
            go_ret3
            rw [Hres.out]
            exact ⟨rfl, rfl⟩
        · have b3 : decide ((144115188075855872 : Int) ≤ x1) = false := by rw [b2]; simp; omega
          have hxle : x1 ≤ 144115188075855871 := by omega
          have hz : z % 128 ≤ 127 := by omega
          have w1 : IntKind.u64.wrap ((x1 : Int) * 128) = (x1 : Int) * 128 := IntWalk.u64_in _ (by omega)
          clear b2
          by_cases hsm : z < 128
          · have hres := Hrel2.out
            rw [if_neg hbig, if_neg (by omega), if_pos hsm] at hres
            have e8 : ((z : Int)).tmod 128 = z := by rw [Int.tmod_eq_emod_of_nonneg (by omega)]; omega
            have b4 : decide ((z : Int) < 128) = true := by simp; omega
            have Hres := Lib.hid hres
            have hval : dnextV at_ (num (l.drop at_)) = .tuple #[.int .u64 ((x1 : Int) * 128 + z), .int .i64 ((j : Int) + 1), .int .i64 0] := by
              rw [Hres.out]
              unfold dnextV
              simp only [if_true]
              rw [show at_ + (j - at_ + 1) = j + 1 by omega]
              push_cast
              rfl
            have Hval := Lib.hid hval
            clear hres Hrel2 Hk0 hval
            by_cases hja : j = at_
            · subst hja
              have b1 : ((z : Int) == 128) = false := by simp; omega
              clear hfirst
              go_wp2
              go_ret3
              rw [Hval.out]
              exact ⟨rfl, rfl⟩
            · have b0 : ((j : Int) == (at_ : Int)) = false := by simp; omega
              clear hfirst
              go_wp2
              go_ret3
              rw [Hval.out]
              exact ⟨rfl, rfl⟩
          · have hres := Hrel2.out
            rw [if_neg hbig, if_neg (by omega), if_neg hsm] at hres
            have b4 : decide ((z : Int) < 128) = false := by simp; omega
            have hnew : num (l.drop at_) = dleftR l at_ (x1 * 128 + z % 128) (j + 1) := by
              unfold dleftR
              rw [show j + 1 - at_ = j - at_ + 1 by omega]
              exact hres
            have Hnew := Lib.hid hnew
            clear hres Hrel2 Hk0 hnew
            by_cases hja : j = at_
            · subst hja
              have b1 : ((z : Int) == 128) = false := by simp; omega
              clear hfirst
              go_wp2
              go_roundw
              case rel => exact ⟨x1 * 128 + z % 128, j + 1, by go_num, by go_num, by omega, by omega, by omega, fun h => absurd h (by omega), by simp, Hnew.out⟩
              case measure => simp [intOf]; omega
            · have b0 : ((j : Int) == (at_ : Int)) = false := by simp; omega
              clear hfirst
              go_wp2
              go_roundw
              case rel => exact ⟨x1 * 128 + z % 128, j + 1, by go_num, by go_num, by omega, by omega, by omega, fun h => absurd h (by omega), by simp, Hnew.out⟩
              case measure => simp [intOf]; omega
    · obtain rfl : j = n := by omega
      have hres := hrel.out
      unfold dleftR at hres
      rw [show l.drop j = [] from List.drop_eq_nil_of_le (by rw [hlen.out]; exact Nat.le_refl _)] at hres
      by_cases hbig : 144115188075855871 < x1
      · rw [if_pos hbig] at hres
        have b3 : decide ((144115188075855872 : Int) ≤ x1) = true := by simp; omega
        have Hres := Lib.hid hres
        clear hres hrel Hk0
        go_wp2
        go_ret3
        rw [Hres.out]
        exact ⟨rfl, rfl⟩
      · rw [if_neg hbig] at hres
        unfold numGo at hres
        have b3 : decide ((144115188075855872 : Int) ≤ x1) = false := by simp; omega
        have Hres := Lib.hid hres
        clear hres hrel Hk0
        go_wp2
        go_ret3
        rw [Hres.out]
        exact ⟨rfl, rfl⟩
end Go.Proofs.YtlmfjalkgapcgaaDoor

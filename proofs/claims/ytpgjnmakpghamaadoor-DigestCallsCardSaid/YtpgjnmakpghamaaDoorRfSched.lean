/- The reference: the words of a block, as numbers. -/
import Derived.Test.YtpgjnmakpghamaaDoorRfRight
namespace Go.Proofs.YtpgjnmakpghamaaDoor
open Go.RowKit
set_option linter.unusedVariables false

def wd (l : List Nat) (t : Nat) : Nat := l.getD (4 * t) 0 * 16777216 + l.getD (4 * t + 1) 0 * 65536 + l.getD (4 * t + 2) 0 * 256 + l.getD (4 * t + 3) 0
def rsGo (l : List Nat) : Nat → List Nat
  | 0 => List.replicate 64 0
  | t + 1 => if t < 16 then (rsGo l t).set t (wd l t) else
    (rsGo l t).set t (add32 (add32 (add32 (small1N ((rsGo l t).getD (t - 2) 0)) ((rsGo l t).getD (t - 7) 0)) (small0N ((rsGo l t).getD (t - 15) 0))) ((rsGo l t).getD (t - 16) 0))
theorem rsGo_length (l : List Nat) : ∀ t, (rsGo l t).length = 64
  | 0 => by simp [rsGo]
  | t + 1 => by
    rw [rsGo]
    split <;> rw [List.length_set, rsGo_length l t]
theorem or8 (x b : Nat) (hx : x < 16777216) (hb : b < 256) : (x * 256 % 4294967296) ||| b = x * 256 + b := by
  rw [Nat.mod_eq_of_lt (by omega), Nat.mul_comm]
  exact (Nat.two_pow_add_eq_or_of_lt (i := 8) hb x).symm
theorem wd_eq (l : List Nat) (t : Nat) : wd l t = ((l.getD (4 * t) 0 * 256 + l.getD (4 * t + 1) 0) * 256 + l.getD (4 * t + 2) 0) * 256 + l.getD (4 * t + 3) 0 := by
  unfold wd
  generalize l.getD (4 * t) 0 = a
  generalize l.getD (4 * t + 1) 0 = b
  generalize l.getD (4 * t + 2) 0 = c
  omega
theorem getD_set_here (L : List Nat) (k x : Nat) (h : k < L.length) : (L.set k x).getD k 0 = x := by
  rw [List.getD, List.getElem?_set_self h]
  rfl
theorem pack4 (l : List Nat) (hl : ∀ i, l.getD i 0 < 256) (t : Nat) (P : List Nat) (hP : packGo l (4 * t) = P) (h0 : P.getD t 0 = 0) (hlen : t < P.length) : packGo l (4 * t + 4) = P.set t (wd l t) := by
  have b0 := hl (4 * t)
  have b1 := hl (4 * t + 1)
  have b2 := hl (4 * t + 2)
  have b3 := hl (4 * t + 3)
  have hl1 : ∀ x, t < (P.set t x).length := fun x => by rw [List.length_set]; exact hlen
  have e1 : packGo l (4 * t + 1) = P.set t (l.getD (4 * t) 0) := by
    rw [packGo, hP, show 4 * t / 4 = t by omega, h0, or8 0 _ (by omega) b0]
    congr 1
    omega
  have e2 : packGo l (4 * t + 2) = P.set t (l.getD (4 * t) 0 * 256 + l.getD (4 * t + 1) 0) := by
    rw [show 4 * t + 2 = 4 * t + 1 + 1 by omega, packGo, e1, show (4 * t + 1) / 4 = t by omega, getD_set_here _ _ _ hlen, or8 _ _ (by omega) b1, List.set_set]
  have e3 : packGo l (4 * t + 3) = P.set t ((l.getD (4 * t) 0 * 256 + l.getD (4 * t + 1) 0) * 256 + l.getD (4 * t + 2) 0) := by
    rw [show 4 * t + 3 = 4 * t + 2 + 1 by omega, packGo, e2, show (4 * t + 2) / 4 = t by omega, getD_set_here _ _ _ hlen, or8 _ _ (by omega) b2, List.set_set]
  rw [show 4 * t + 4 = 4 * t + 3 + 1 by omega, packGo, e3, show (4 * t + 3) / 4 = t by omega, getD_set_here _ _ _ hlen, or8 _ _ (by omega) b3, List.set_set, ← wd_eq]
theorem getD_set_else (L : List Nat) (k j x : Nat) (h : k ≠ j) : (L.set k x).getD j 0 = L.getD j 0 := by
  rw [List.getD, List.getElem?_set_ne h]
  rfl
theorem rs_pack (l : List Nat) (hl : ∀ i, l.getD i 0 < 256) : ∀ t, t ≤ 16 → rsGo l t = packGo l (4 * t) ∧ ∀ j, t ≤ j → (rsGo l t).getD j 0 = 0
  | 0, _ => ⟨rfl, fun j _ => by
    rw [rsGo, List.getD, List.getElem?_replicate]
    split <;> rfl⟩
  | t + 1, h => by
    obtain ⟨h1, h2⟩ := rs_pack l hl t (by omega)
    have hlen : t < (rsGo l t).length := by rw [rsGo_length]; omega
    have hp := pack4 l hl t (rsGo l t) h1.symm (h2 t (Nat.le_refl _)) hlen
    rw [show 4 * (t + 1) = 4 * t + 4 by omega, hp, rsGo, if_pos (by omega)]
    exact ⟨rfl, fun j hj => by rw [getD_set_else _ _ _ _ (by omega)]; exact h2 j (by omega)⟩
theorem rs_sched (l : List Nat) (hl : ∀ i, l.getD i 0 < 256) : ∀ k, rsGo l (16 + k) = schedGo l k
  | 0 => (rs_pack l hl 16 (Nat.le_refl _)).1
  | k + 1 => by
    rw [show 16 + (k + 1) = 16 + k + 1 by omega, rsGo, if_neg (by omega), rs_sched l hl k, schedGo, show 16 + k - 2 = k + 14 by omega, show 16 + k - 7 = k + 9 by omega, show 16 + k - 15 = k + 1 by omega, show 16 + k - 16 = k by omega, show 16 + k = k + 16 by omega]
theorem rs_end (l : List Nat) (hl : ∀ i, l.getD i 0 < 256) : rsGo l 64 = schedN l := rs_sched l hl 48
theorem wd_lt (l : List Nat) (hl : ∀ i, l.getD i 0 < 256) (t : Nat) : wd l t < 4294967296 := by
  have b0 := hl (4 * t)
  have b1 := hl (4 * t + 1)
  have b2 := hl (4 * t + 2)
  have b3 := hl (4 * t + 3)
  unfold wd
  omega
theorem rsGo_words (l : List Nat) (hl : ∀ i, l.getD i 0 < 256) : ∀ t, Words (rsGo l t)
  | 0 => fun j => by
    rw [rsGo, List.getD, List.getElem?_replicate]
    split <;> decide
  | t + 1 => by
    rw [rsGo]
    split
    · exact (rsGo_words l hl t).set _ _ (wd_lt l hl t)
    · exact (rsGo_words l hl t).set _ _ (add32_lt _ _)
end Go.Proofs.YtpgjnmakpghamaaDoor

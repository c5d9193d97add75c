/- Plain mathematics: what is written is read back, no other bytes encode it, a changed byte changes the checksum. -/
import Derived.Test.YtlmfjalkgapcgaaDoorWiPure
namespace Go.Proofs.YtlmfjalkgapcgaaDoor
set_option linter.unusedVariables false

theorem grp_more (f y : Nat) (h : y < 128 ^ f) : grp (f + 1) y = grp f y := by
  induction f generalizing y with
  | zero =>
    have : y = 0 := by simpa using h
    subst this
    simp [grp]
  | succ f ih =>
    by_cases hy : y = 0
    · subst hy
      rw [grp_zero, grp_zero]
    · rw [grp_succ (f + 1) y (by omega), grp_succ f y (by omega), ih]
      rw [Nat.pow_succ] at h
      omega
theorem grp_nil (f y : Nat) (h : y < 128 ^ f) (h0 : (grp f y).length = 0) : y = 0 := by
  cases f with
  | zero => simpa using h
  | succ f =>
    by_cases hy : y = 0
    · exact hy
    · rw [grp_succ f y (by omega)] at h0
      simp at h0
theorem numGo_grp (f y : Nat) (h : y < 128 ^ f) (hy : y ≤ 144115188075855871) (r : List UInt8) : numGo 0 0 ((grp f y).reverse ++ r) = numGo y (grp f y).length r := by
  induction f generalizing y r with
  | zero =>
    have : y = 0 := by simpa using h
    subst this
    simp [grp]
  | succ f ih =>
    by_cases h0 : y = 0
    · subst h0
      rw [grp_zero]
      simp
    · rw [Nat.pow_succ] at h
      have hf : y / 128 < 128 ^ f := by omega
      rw [grp_succ f y (by omega), List.reverse_cons, List.append_assoc, ih (y / 128) hf (by omega)]
      have hnil := grp_nil f (y / 128) hf
      have hc : (UInt8.ofNat (128 + y % 128)).toNat = 128 + y % 128 := ofNat_toNat _ (by omega)
      rw [List.singleton_append, numGo, hc, if_neg (by omega), if_neg (by omega), if_neg (by omega), List.length_cons]
      congr 1
      omega
theorem num_enc (x : Nat) (hx : x < 18446744073709551616) (r : List UInt8) : num (enc x ++ r) = (x, (enc x).length, 0) := by
  have h9 : (128 : Nat) ^ 9 = 9223372036854775808 := by decide
  have hc : (UInt8.ofNat (x % 128)).toNat = x % 128 := ofNat_toNat _ (by omega)
  unfold num enc
  rw [List.reverse_cons, List.append_assoc, numGo_grp 9 (x / 128) (by omega) (by omega), List.singleton_append, numGo, hc, if_neg (by omega), if_pos (by omega)]
  simp
  omega

theorem numGo_enc (l : List UInt8) (x0 i : Nat) (hi : i = (grp 9 x0).length) (hx : x0 ≤ 144115188075855871) (h : (numGo x0 i l).2.2 = 0) :
    (grp 9 x0).reverse ++ l.take ((numGo x0 i l).2.1 - i) = enc (numGo x0 i l).1 := by
  induction l generalizing x0 i with
  | nil => simp [numGo] at h
  | cons c r ih =>
    have hcl := c.toNat_lt
    unfold numGo at h ⊢
    by_cases h1 : i = 0 ∧ c.toNat = 128
    · rw [if_pos h1] at h; simp at h
    rw [if_neg h1] at h ⊢
    by_cases h2 : c.toNat < 128
    · rw [if_pos h2]
      simp only
      rw [show i + 1 - i = 1 by omega, enc, show (x0 * 128 + c.toNat) / 128 = x0 by omega, show (x0 * 128 + c.toNat) % 128 = c.toNat by omega]
      simp
    rw [if_neg h2] at h ⊢
    by_cases h3 : 144115188075855871 < x0 * 128 + c.toNat % 128
    · rw [if_pos h3] at h; simp at h
    rw [if_neg h3] at h ⊢
    have h9 : (128 : Nat) ^ 9 = 9223372036854775808 := by decide
    have h8 : (128 : Nat) ^ 8 = 72057594037927936 := by decide
    have hpos : 0 < x0 * 128 + c.toNat % 128 := by
      by_cases h0 : x0 = 0
      · subst h0
        rw [grp_zero] at hi
        simp at hi
        omega
      · omega
    have hg : grp 9 (x0 * 128 + c.toNat % 128) = c :: grp 9 x0 := by
      rw [grp_succ 8 _ hpos, show (x0 * 128 + c.toNat % 128) / 128 = x0 by omega, grp_more 8 x0 (by omega)]
      congr 1
      rw [show 128 + (x0 * 128 + c.toNat % 128) % 128 = c.toNat by omega]
      simp
    have hrec := ih (x0 * 128 + c.toNat % 128) (i + 1) (by rw [hg, hi]; simp) (by omega) h
    have hle := numGo_le r (x0 * 128 + c.toNat % 128) (i + 1) h
    rw [hg, List.reverse_cons, List.append_assoc] at hrec
    rw [← hrec]
    generalize (numGo (x0 * 128 + c.toNat % 128) (i + 1) r).2.1 = k at *
    rw [show k - i = (k - (i + 1)) + 1 by omega, List.take_succ_cons]
    simp
theorem enc_num (l : List UInt8) (h : (num l).2.2 = 0) : l.take (num l).2.1 = enc (num l).1 := by
  have := numGo_enc l 0 0 (by rw [grp_zero]; rfl) (by omega) h
  rw [grp_zero] at this
  simpa [num] using this
theorem pcs_enc (s r : List UInt8) (hs : s.length ≤ 1048576) : pcs (enc s.length ++ s ++ r) = (s, (enc s.length).length + s.length, 0) := by
  unfold pcs
  rw [List.append_assoc, num_enc s.length (by omega)]
  simp only [ne_eq, not_true_eq_false, if_false]
  rw [if_neg (by omega), if_neg (by simp), List.drop_left, List.take_left]

/-! ### A changed byte -/
theorem sumN_set (l : List UInt8) (k : Nat) (c : UInt8) (h : k < l.length) : sumN (l.set k c) + l[k].toNat = sumN l + c.toNat := by
  induction l generalizing k with
  | nil => simp at h
  | cons b r ih =>
    cases k with
    | zero => simp [sumN]; omega
    | succ k =>
      have := ih k (by simpa using h)
      simp [sumN]
      omega
theorem chk_set (l : List UInt8) (k : Nat) (c : UInt8) (h : k < l.length) (hc : c ≠ l[k]) : adl (l.set k c) ≠ adl l := by
  have h1 := sumN_set l k c h
  have h2 := c.toNat_lt
  have h3 := l[k].toNat_lt
  have h4 : c.toNat ≠ l[k].toNat := fun e => hc (UInt8.toNat_inj.1 e)
  unfold adl lowN
  omega
theorem be_set (x : Nat) (k : Nat) (c : UInt8) (h : k < 4) (hx : x < 4294967296) (hc : c ≠ (w4 x)[k]'(by rw [w4_length]; exact h)) : be 0 ((w4 x).set k c) ≠ x := by
  have h2 := c.toNat_lt
  have e0 := ofNat_toNat (x / 16777216) (by omega)
  have e1 := ofNat_toNat (x / 65536 % 256) (by omega)
  have e2 := ofNat_toNat (x / 256 % 256) (by omega)
  have e3 := ofNat_toNat (x % 256) (by omega)
  have h4 : c.toNat ≠ ((w4 x)[k]'(by rw [w4_length]; exact h)).toNat := fun e => hc (UInt8.toNat_inj.1 e)
  rcases k with _ | _ | _ | _ | k
  · simp only [w4, List.getElem_cons_zero, e0] at h4
    simp only [w4, List.set_cons_zero, be, e1, e2, e3]
    omega
  · simp only [w4, List.getElem_cons_zero, List.getElem_cons_succ, e1] at h4
    simp only [w4, List.set_cons_zero, List.set_cons_succ, be, e0, e2, e3]
    omega
  · simp only [w4, List.getElem_cons_zero, List.getElem_cons_succ, e2] at h4
    simp only [w4, List.set_cons_zero, List.set_cons_succ, be, e0, e1, e3]
    omega
  · simp only [w4, List.getElem_cons_zero, List.getElem_cons_succ, e3] at h4
    simp only [w4, List.set_cons_zero, List.set_cons_succ, be, e0, e1, e2]
    omega
  · omega

end Go.Proofs.YtlmfjalkgapcgaaDoor

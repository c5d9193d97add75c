/- Plain mathematics of the wire layer: groups of seven bits, Adler's sum, words of four bytes. Nothing of the program is named here. -/
import Derived.WalkKit
namespace Go.Proofs.YtlmfjalkgapcgaaDoor

/-! ### Numbers in groups of seven bits -/
/-- The groups but the last one, the lowest first (at most f of them). -/
def grp : Nat → Nat → List UInt8
  | 0, _ => []
  | f + 1, x => if x = 0 then [] else UInt8.ofNat (128 + x % 128) :: grp f (x / 128)
/-- A number's bytes, the highest group first. -/
def enc (x : Nat) : List UInt8 := (UInt8.ofNat (x % 128) :: grp 9 (x / 128)).reverse

theorem grp_zero (f : Nat) : grp f 0 = [] := by cases f <;> simp [grp]
theorem grp_succ (f x : Nat) (h : 0 < x) : grp (f + 1) x = UInt8.ofNat (128 + x % 128) :: grp f (x / 128) := by
  rw [grp, if_neg (by omega)]
theorem grp_length (f x : Nat) : (grp f x).length ≤ f := by
  induction f generalizing x with
  | zero => simp [grp]
  | succ f ih => rw [grp]; split
                 · simp
                 · have := ih (x / 128); simp; omega
theorem enc_length (x : Nat) : (enc x).length ≤ 10 := by
  have := grp_length 9 (x / 128)
  simp [enc]
  omega
theorem ofNat_toNat (n : Nat) (h : n < 256) : (UInt8.ofNat n).toNat = n := by simp; omega

/-! ### Adler's sum -/
/-- The sum of the bytes. -/
def sumN : List UInt8 → Nat
  | [] => 0
  | b :: r => b.toNat + sumN r
/-- The sum of the sums of all prefixes that have a byte. -/
def sumS : List UInt8 → Nat
  | [] => 0
  | b :: r => (r.length + 1) * b.toNat + sumS r
theorem sumN_append (l m : List UInt8) : sumN (l ++ m) = sumN l + sumN m := by
  induction l with
  | nil => simp [sumN]
  | cons b r ih => simp [sumN, ih]; omega
theorem sumS_append (l m : List UInt8) : sumS (l ++ m) = sumS l + m.length * sumN l + sumS m := by
  induction l with
  | nil => simp [sumS, sumN]
  | cons b r ih =>
    simp only [List.cons_append, sumS, sumN, ih, List.length_append]
    rw [Nat.mul_add m.length, show r.length + m.length + 1 = (r.length + 1) + m.length by omega, Nat.add_mul]
    omega
theorem sumN_le (l : List UInt8) : sumN l ≤ 255 * l.length := by
  induction l with
  | nil => simp [sumN]
  | cons b r ih => have := b.toNat_lt; simp [sumN]; omega
theorem sumS_le (l : List UInt8) : sumS l ≤ 255 * l.length * l.length := by
  induction l with
  | nil => simp [sumS]
  | cons b r ih =>
    have hb := b.toNat_lt
    simp only [sumS, List.length_cons]
    have h1 : (r.length + 1) * b.toNat ≤ (r.length + 1) * 255 := Nat.mul_le_mul_left _ (by omega)
    have h2 : 255 * (r.length + 1) * (r.length + 1) = 255 * r.length * r.length + 255 * r.length + 255 * (r.length + 1) := by
      rw [Nat.mul_add 255, Nat.mul_add, Nat.add_mul]
      omega
    omega
/-- The two halves, not yet reduced, and the checksum. -/
def lowN (l : List UInt8) : Nat := 1 + sumN l
def highN (l : List UInt8) : Nat := l.length + sumS l
def adl (l : List UInt8) : Nat := highN l % 65521 * 65536 + lowN l % 65521
theorem lowN_snoc (l : List UInt8) (b : UInt8) : lowN (l ++ [b]) = lowN l + b.toNat := by simp [lowN, sumN_append, sumN]; omega
theorem highN_snoc (l : List UInt8) (b : UInt8) : highN (l ++ [b]) = highN l + lowN (l ++ [b]) := by
  simp [highN, lowN, sumN_append, sumS_append, sumN, sumS]; omega
theorem chk_lt (l : List UInt8) : adl l < 4294967296 := by unfold adl; omega

/-! ### Words of four bytes, the highest first -/
def w4 (x : Nat) : List UInt8 := [UInt8.ofNat (x / 16777216), UInt8.ofNat (x / 65536 % 256), UInt8.ofNat (x / 256 % 256), UInt8.ofNat (x % 256)]
/-- The number of bytes that come, behind x (modulo 2^32). -/
def be : Nat → List UInt8 → Nat
  | x, [] => x
  | x, b :: r => be (x * 256 % 4294967296 + b.toNat) r
theorem be_snoc (x : Nat) (l : List UInt8) (b : UInt8) : be x (l ++ [b]) = be x l * 256 % 4294967296 + b.toNat := by
  induction l generalizing x with
  | nil => simp [be]
  | cons a r ih => simp [be, ih]
theorem be_lt (x : Nat) (h : x < 4294967296) (l : List UInt8) : be x l < 4294967296 := by
  induction l generalizing x with
  | nil => exact h
  | cons a r ih => exact ih _ (by have := a.toNat_lt; omega)
theorem be_w4 (x : Nat) (h : x < 4294967296) : be 0 (w4 x) = x := by
  simp [be, w4]
  omega
theorem w4_length (x : Nat) : (w4 x).length = 4 := rfl
theorem take_snoc' (l : List UInt8) (k : Nat) (h : k < l.length) : l.take (k + 1) = l.take k ++ [l[k]] := by
  rw [List.take_succ_eq_append_getElem h]

/-! ### Reading a number: its value, how many bytes it has, the error (4: bad, 5: more) -/
def numGo (x i : Nat) : List UInt8 → Nat × Nat × Nat
  | [] => (0, 0, 5)
  | c :: r =>
    if i = 0 ∧ c.toNat = 128 then (0, 0, 4)
    else if c.toNat < 128 then (x * 128 + c.toNat, i + 1, 0)
    else if 144115188075855871 < x * 128 + c.toNat % 128 then (0, 0, 4)
    else numGo (x * 128 + c.toNat % 128) (i + 1) r
def num (l : List UInt8) : Nat × Nat × Nat := numGo 0 0 l
theorem numGo_le (l : List UInt8) (x i : Nat) (h : (numGo x i l).2.2 = 0) : i < (numGo x i l).2.1 ∧ (numGo x i l).2.1 ≤ i + l.length := by
  induction l generalizing x i with
  | nil => simp [numGo] at h
  | cons c r ih =>
    unfold numGo at h ⊢
    split
    · next h1 => rw [if_pos h1] at h; simp at h
    · next h1 =>
      rw [if_neg h1] at h
      split
      · simp
      · next h2 =>
        rw [if_neg h2] at h
        split
        · next h3 => rw [if_pos h3] at h; simp at h
        · next h3 =>
          rw [if_neg h3] at h
          have := ih _ _ h
          simp only [List.length_cons]
          omega
theorem numGo_lt (l : List UInt8) (x i : Nat) (hx : x ≤ 144115188075855871) : (numGo x i l).1 < 18446744073709551616 := by
  induction l generalizing x i with
  | nil => simp [numGo]
  | cons c r ih =>
    unfold numGo
    split
    · simp
    · split
      · simp only; omega
      · split
        · simp
        · exact ih _ _ (by omega)
theorem num_le (l : List UInt8) (h : (num l).2.2 = 0) : 0 < (num l).2.1 ∧ (num l).2.1 ≤ l.length := by
  have := numGo_le l 0 0 h
  unfold num
  omega
theorem num_lt (l : List UInt8) : (num l).1 < 18446744073709551616 := numGo_lt l 0 0 (by omega)
theorem numGo_err (l : List UInt8) (x i : Nat) (h : (numGo x i l).2.2 ≠ 0) : (numGo x i l).1 = 0 ∧ (numGo x i l).2.1 = 0 ∧ ((numGo x i l).2.2 = 4 ∨ (numGo x i l).2.2 = 5) := by
  induction l generalizing x i with
  | nil => simp [numGo]
  | cons c r ih =>
    unfold numGo at h ⊢
    split
    · simp
    · next h1 =>
      rw [if_neg h1] at h
      split
      · next h2 => rw [if_pos h2] at h; simp at h
      · next h2 =>
        rw [if_neg h2] at h
        split
        · simp
        · next h3 =>
          rw [if_neg h3] at h
          exact ih _ _ h
theorem num_err (l : List UInt8) (h : (num l).2.2 ≠ 0) : (num l).1 = 0 ∧ (num l).2.1 = 0 ∧ ((num l).2.2 = 4 ∨ (num l).2.2 = 5) := numGo_err l 0 0 h

/-! ### Reading a piece: its bytes, how many bytes were read, the error -/
def pcs (l : List UInt8) : List UInt8 × Nat × Nat :=
  if (num l).2.2 ≠ 0 then ([], 0, (num l).2.2)
  else if 1048576 < (num l).1 then ([], 0, 3)
  else if l.length - (num l).2.1 < (num l).1 then ([], 0, 5)
  else ((l.drop (num l).2.1).take (num l).1, (num l).2.1 + (num l).1, 0)
/-- Reading a number that is at most m: its value, how many bytes were read, the error. -/
def cnt (m : Nat) (l : List UInt8) : Nat × Nat × Nat :=
  if (num l).2.2 ≠ 0 then (0, 0, (num l).2.2)
  else if m < (num l).1 then (0, 0, 3)
  else ((num l).1, (num l).2.1, 0)
theorem pcs_le (l : List UInt8) : (pcs l).2.1 ≤ l.length := by
  unfold pcs
  split
  · simp
  · next h =>
    have := num_le l (by simpa using h)
    split
    · simp
    · split
      · simp
      · simp only; omega
theorem cnt_le (m : Nat) (l : List UInt8) : (cnt m l).2.1 ≤ l.length := by
  unfold cnt
  split
  · simp
  · next h =>
    have := num_le l (by simpa using h)
    split
    · simp
    · simp only; omega
end Go.Proofs.YtlmfjalkgapcgaaDoor

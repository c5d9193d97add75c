/- Plain mathematics of the wire layer: groups of seven bits, Adler's sum, words of four bytes. Nothing of the program is named here. -/
import Derived.WalkKit
namespace Go.Proofs.Ytejjjndpkajohaa

/-! ### Numbers in groups of seven bits -/
/-- The groups but the last one, the lowest first (at most f of them). -/
def grp : Nat → Nat → List UInt8
  | 0, _ => []
  | f + 1, x => if x = 0 then [] else UInt8.ofNat (128 + x % 128) :: grp f (x / 128)
/-- A number's bytes, the highest group first. -/
def enc (x : Nat) : List UInt8 := (UInt8.ofNat (x % 128) :: grp 9 (x / 128)).reverse

theorem grp_zero (f : Nat) : grp f 0 = [] := by cases f <;> simp [grp]
theorem grp_succ (f x : Nat) (h : 0 < x) : grp (f + 1) x = UInt8.ofNat (128 + x % 128) :: grp f (x / 128) := by
  rw [grp, if_neg (by omega)]
theorem grp_length (f x : Nat) : (grp f x).length ≤ f := by
  induction f generalizing x with
  | zero => simp [grp]
  | succ f ih => rw [grp]; split
                 · simp
                 · have := ih (x / 128); simp; omega
theorem enc_length (x : Nat) : (enc x).length ≤ 10 := by
  have := grp_length 9 (x / 128)
  simp [enc]
  omega
theorem ofNat_toNat (n : Nat) (h : n < 256) : (UInt8.ofNat n).toNat = n := by simp; omega

/-! ### Adler's sum -/
/-- The sum of the bytes. -/
def sumN : List UInt8 → Nat
  | [] => 0
  | b :: r => b.toNat + sumN r
/-- The sum of the sums of all prefixes that have a byte. -/
def sumS : List UInt8 → Nat
  | [] => 0
  | b :: r => (r.length + 1) * b.toNat + sumS r
theorem sumN_append (l m : List UInt8) : sumN (l ++ m) = sumN l + sumN m := by
  induction l with
  | nil => simp [sumN]
  | cons b r ih => simp [sumN, ih]; omega
theorem sumS_append (l m : List UInt8) : sumS (l ++ m) = sumS l + m.length * sumN l + sumS m := by
  induction l with
  | nil => simp [sumS, sumN]
  | cons b r ih =>
    simp only [List.cons_append, sumS, sumN, ih, List.length_append]
    rw [Nat.mul_add m.length, show r.length + m.length + 1 = (r.length + 1) + m.length by omega, Nat.add_mul]
    omega
theorem sumN_le (l : List UInt8) : sumN l ≤ 255 * l.length := by
  induction l with
  | nil => simp [sumN]
  | cons b r ih => have := b.toNat_lt; simp [sumN]; omega
theorem sumS_le (l : List UInt8) : sumS l ≤ 255 * l.length * l.length := by
  induction l with
  | nil => simp [sumS]
  | cons b r ih =>
    have hb := b.toNat_lt
    simp only [sumS, List.length_cons]
    have h1 : (r.length + 1) * b.toNat ≤ (r.length + 1) * 255 := Nat.mul_le_mul_left _ (by omega)
    have h2 : 255 * (r.length + 1) * (r.length + 1) = 255 * r.length * r.length + 255 * r.length + 255 * (r.length + 1) := by
      rw [Nat.mul_add 255, Nat.mul_add, Nat.add_mul]
      omega
    omega
/-- The two halves, not yet reduced, and the checksum. -/
def lowN (l : List UInt8) : Nat := 1 + sumN l
def highN (l : List UInt8) : Nat := l.length + sumS l
def chk (l : List UInt8) : Nat := highN l % 65521 * 65536 + lowN l % 65521
theorem lowN_snoc (l : List UInt8) (b : UInt8) : lowN (l ++ [b]) = lowN l + b.toNat := by simp [lowN, sumN_append, sumN]; omega
theorem highN_snoc (l : List UInt8) (b : UInt8) : highN (l ++ [b]) = highN l + lowN (l ++ [b]) := by
  simp [highN, lowN, sumN_append, sumS_append, sumN, sumS]; omega
theorem chk_lt (l : List UInt8) : chk l < 4294967296 := by unfold chk; omega

/-! ### Words of four bytes, the highest first -/
def w4 (x : Nat) : List UInt8 := [UInt8.ofNat (x / 16777216), UInt8.ofNat (x / 65536 % 256), UInt8.ofNat (x / 256 % 256), UInt8.ofNat (x % 256)]
/-- The number of bytes that come, behind x (modulo 2^32). -/
def be : Nat → List UInt8 → Nat
  | x, [] => x
  | x, b :: r => be (x * 256 % 4294967296 + b.toNat) r
theorem be_snoc (x : Nat) (l : List UInt8) (b : UInt8) : be x (l ++ [b]) = be x l * 256 % 4294967296 + b.toNat := by
  induction l generalizing x with
  | nil => simp [be]
  | cons a r ih => simp [be, ih]
theorem be_lt (x : Nat) (h : x < 4294967296) (l : List UInt8) : be x l < 4294967296 := by
  induction l generalizing x with
  | nil => exact h
  | cons a r ih => exact ih _ (by have := a.toNat_lt; omega)
theorem be_w4 (x : Nat) (h : x < 4294967296) : be 0 (w4 x) = x := by
  simp [be, w4]
  omega
theorem w4_length (x : Nat) : (w4 x).length = 4 := rfl
theorem take_snoc' (l : List UInt8) (k : Nat) (h : k < l.length) : l.take (k + 1) = l.take k ++ [l[k]] := by
  rw [List.take_succ_eq_append_getElem h]
end Go.Proofs.Ytejjjndpkajohaa

/- Walks: Join of package wire and of the document's answers; Own and Pick of the kit; the document's Number, Piece, Sum. -/
import Derived.Test.YtpgjnmakpghamaaRdr3
namespace Go.Proofs.Ytpgjnmakpghamaa
open Go.RowKit
set_option linter.unusedVariables false

/-! ### Own, Pick -/
theorem own_any (w : World) (B n c : Nat) (A : Option Addr) (l : List UInt8) (h : Byt w B A n c l) (hB : B ≤ w.heap.size) (hn : n ≤ 1099511627776) :
    Calls Try.prog 16 #[.slice A n c] w fun e w' => ∃ A' c', e = .returned (.slice A' n c') ∧ Own w' w.heap.size A' n c' l ∧ (A' = none → n = 0 ∧ c' = 0) ∧ Below w.heap.size w w' := by
  have Hb := Lib.hid ((h.more hB).alloc (Nat.le_refl _) (.cells #[] 5))
  have ho : Own (w.alloc (.cells #[] 5)) w.heap.size (some ⟨w.heap.size, 0, none⟩) 0 0 [] := Own.lit w #[] [] rfl (Nat.zero_le _)
  clear h
  go_enter Try.func16, Try.ntmps16
  go_wp2_with (at_builtin; refine wpList_byte_append rfl (.tmp 3) (.tmp 4) rfl w.heap.size _ 0 0 [] rfl ho w.heap.size _ n c l rfl Hb.out (by omega) (by simp) ?_; intro A2 c2 w2 hown2 hgr2 hat2)
  go_ret
  rw [Nat.zero_add] at hown2
  refine ⟨A2, c2, rfl, hown2, fun hA => ?_, ((Below.refl _ _).alloc (Nat.le_refl _) _).grown hgr2 (by simp) fun k hk => (World.ownsRow.lt ho k hk).1⟩
  subst hA
  rcases hown2.2 with ⟨hv, hn0⟩ | ⟨g, cap, cur, hv, _⟩
  · injection hv with _ _ hc0
    exact ⟨hn0, hc0⟩
  · injection hv with hv
    cases hv

theorem neg_lt_tmod (n m : Int) (h : 0 < m) : -m < n.tmod m := by
  have := Int.tmod_lt_of_pos (-n) h
  rw [Int.neg_tmod] at this
  omega
/-- What Pick returns. -/
def pickOf (n m : Int) : Int := if n.tmod m < 0 then n.tmod m + m else n.tmod m
theorem pick_any (n m : Int) (w : World) (h1 : 1 ≤ m) (h2 : m ≤ 4611686018427387904) (h3 : -9223372036854775808 ≤ n) (h4 : n ≤ 9223372036854775807) :
    Calls Try.prog 27 #[.int .i64 n, .int .i64 m] w fun e w' => e = .returned (.int .i64 (pickOf n m)) ∧ w = w' := by
  have hm0 : ¬ m = 0 := by omega
  have t1 := Int.tmod_lt_of_pos n (show 0 < m by omega)
  have t2 := neg_lt_tmod n m (by omega)
  unfold pickOf
  by_cases hneg : n.tmod m < 0
  · rw [if_pos hneg]
    go_enter Try.func27, Try.ntmps27
    go_wp2
    go_ret
    exact ⟨rfl, rfl⟩
  · rw [if_neg hneg]
    go_enter Try.func27, Try.ntmps27
    go_wp2
    go_ret
    exact ⟨rfl, rfl⟩
theorem pickOf_lo (n m : Int) (h : 1 ≤ m) : 0 ≤ pickOf n m := by
  unfold pickOf
  have := neg_lt_tmod n m (by omega)
  split <;> omega
theorem pickOf_hi (n m : Int) (h : 1 ≤ m) : pickOf n m < m := by
  unfold pickOf
  have := Int.tmod_lt_of_pos n (show 0 < m by omega)
  split <;> omega

/-! ### Join -/
/-- Are both halves of a checksum below the prime? -/
def fine (a : Nat) : Bool := decide (a % 65536 < 65521 ∧ a / 65536 < 65521)
def joined (a b n : Nat) : Nat := (a / 65536 + b / 65536 + n % 65521 * (a % 65536 + 65520)) % 65521 * 65536 + (a % 65536 + 65520 + b % 65536) % 65521

/-- The greatest of four. -/
def mx4 (x y z u : Int) : Int := if u > (if z > (if y > x then y else x) then z else (if y > x then y else x)) then u else (if z > (if y > x then y else x) then z else (if y > x then y else x))
theorem run_max4 {P : Program} (w : World) (ts : Array TypeId) (t : TypeId) (k k2 k3 k4 : IntKind) (x y z u : Int) : (Builtin.max_ ts t #[.int k x, .int k2 y, .int k3 z, .int k4 u]).run P w = .ok (.int k (mx4 x y z u)) w := by
  simp [Builtin.max_, Builtin.max2, mx4]
theorem mx4_ge (x y z u m : Int) : m ≤ mx4 x y z u ↔ m ≤ x ∨ m ≤ y ∨ m ≤ z ∨ m ≤ u := by
  unfold mx4
  split <;> split <;> split <;> omega
theorem join_lo (la lb : Nat) : ((la : Int) + 65521 - 1 + lb) % 65521 = (((la + 65520 + lb) % 65521 : Nat) : Int) := by omega
theorem mul_nat (a b : Nat) (x y : Int) (hx : x = a) (hy : y = b) : x * y = ((a * b : Nat) : Int) := by
  rw [hx, hy, Int.natCast_mul]
theorem join_mul (la n : Nat) : (n : Int) % 65521 * ((la : Int) + 65521 - 1) = ((n % 65521 * (la + 65520) : Nat) : Int) := mul_nat (n % 65521) (la + 65520) _ _ (by omega) (by omega)
theorem join_hi' (t ha hb : Nat) (ht : t ≤ 8585740800) (h2 : ha < 65521) (h3 : hb < 65521) :
    (IntKind.u64.wrap ((ha : Int) + hb + IntKind.u64.wrap (t : Int))).tmod 65521 = (((ha + hb + t) % 65521 : Nat) : Int) := by
  rw [IntWalk.u64_in (t : Int) ⟨by omega, by omega⟩, IntWalk.u64_in _ ⟨by omega, by omega⟩, Int.tmod_eq_emod_of_nonneg (by omega)]
  omega
theorem mul_le' (a b : Nat) (h1 : a ≤ 65520) (h2 : b ≤ 131040) : a * b ≤ 8585740800 := Nat.mul_le_mul h1 h2
theorem join_hi (la ha hb n : Nat) (h1 : la < 65521) (h2 : ha < 65521) (h3 : hb < 65521) :
    (IntKind.u64.wrap ((ha : Int) + hb + IntKind.u64.wrap ((n : Int) % 65521 * ((la : Int) + 65521 - 1)))).tmod 65521 = (((ha + hb + n % 65521 * (la + 65520)) % 65521 : Nat) : Int) := by
  rw [join_mul]
  exact join_hi' _ ha hb (mul_le' _ _ (by omega) (by omega)) h2 h3
/-- What is above the halves. -/
theorem fine_iff (a : Nat) : fine a = true ↔ a % 65536 < 65521 ∧ a / 65536 < 65521 := by simp [fine]

set_option maxRecDepth 100000 in
theorem join_neg (a b : Nat) (n : Int) (w : World) (ha : a < 4294967296) (hb : b < 4294967296) (hn : n < 0) (hn2 : -9223372036854775808 ≤ n) :
    Calls Try.prog 18 #[.int .u32 a, .int .u32 b, .int .i64 n] w fun e w' => e = .returned (.tuple #[.int .u32 0, .int .i64 2]) ∧ w = w' := by
  have hd : decide (n < 0) = true := by simpa using hn
  go_enter Try.func18, Try.ntmps18
  go_wp2_with (first
    | (go_at_call_of 43 (Value.int .u32 (a : Int)); refine (halves_any a w ha).mono ?_; rintro e w' ⟨rfl, rfl⟩)
    | (go_at_call_of 43 (Value.int .u32 (b : Int)); refine (halves_any b w hb).mono ?_; rintro e w' ⟨rfl, rfl⟩))
  go_ret2
  exact ⟨rfl, rfl⟩

set_option maxRecDepth 100000 in
theorem join_bad (a b : Nat) (n : Int) (w : World) (ha : a < 4294967296) (hb : b < 4294967296) (hn : 0 ≤ n) (hn2 : n ≤ 9223372036854775807) (hbad : fine a = false ∨ fine b = false) :
    Calls Try.prog 18 #[.int .u32 a, .int .u32 b, .int .i64 n] w fun e w' => e = .returned (.tuple #[.int .u32 0, .int .i64 2]) ∧ w = w' := by
  have hd : decide (n < 0) = false := by simp; omega
  have e1 : 65521 ≤ a % 65536 ∨ 65521 ≤ a / 65536 ∨ 65521 ≤ b % 65536 ∨ 65521 ≤ b / 65536 := by
    unfold fine at hbad
    rw [decide_eq_false_iff_not, decide_eq_false_iff_not] at hbad
    omega
  have q1 : a % 65536 < 65536 := by omega
  have q2 : a / 65536 < 65536 := by omega
  have q3 : b % 65536 < 65536 := by omega
  have q4 : b / 65536 < 65536 := by omega
  have h1 := halves_any a w ha
  have h2 := halves_any b w hb
  generalize a % 65536 = la at *
  generalize a / 65536 = ha' at *
  generalize b % 65536 = lb at *
  generalize b / 65536 = hb' at *
  go_enter Try.func18, Try.ntmps18
  go_wp2_with fail
  refine h1.mono ?_
  rintro e w' ⟨rfl, rfl⟩
  go_wp2_with fail
  refine h2.mono ?_
  rintro e w' ⟨rfl, rfl⟩
  clear h1 h2 ha hb hbad
  have hmx := fun (W : World) (ts : Array TypeId) (t : TypeId) => run_max4 (P := Try.prog) W ts t .u64 .u64 .u64 .u64 (la : Int) ha' lb hb'
  have hge : decide (65521 ≤ mx4 (la : Int) ha' lb hb') = true := by
    rw [decide_eq_true_iff, mx4_ge]
    omega
  generalize mx4 (la : Int) ha' lb hb' = M at *
  go_wp2
  go_ret2
  exact ⟨rfl, rfl⟩

set_option maxRecDepth 100000 in
theorem join_ok (a b : Nat) (n : Int) (w : World) (ha : a < 4294967296) (hb : b < 4294967296) (hn : 0 ≤ n) (hn2 : n ≤ 9223372036854775807) (hf1 : fine a = true) (hf2 : fine b = true) :
    Calls Try.prog 18 #[.int .u32 a, .int .u32 b, .int .i64 n] w fun e w' => e = .returned (.tuple #[.int .u32 (joined a b n.toNat : Nat), .int .i64 0]) ∧ w = w' := by
  have hd : decide (n < 0) = false := by simp; omega
  obtain ⟨q1, q2⟩ := (fine_iff a).1 hf1
  obtain ⟨q3, q4⟩ := (fine_iff b).1 hf2
  have h1 := halves_any a w ha
  have h2 := halves_any b w hb
  have eu : IntKind.u64.wrap n = n := IntWalk.u64_in _ (by omega)
  obtain ⟨n, rfl⟩ := Int.eq_ofNat_of_zero_le hn
  rw [Int.toNat_natCast]
  have hj : joined a b n = (a / 65536 + b / 65536 + n % 65521 * (a % 65536 + 65520)) % 65521 * 65536 + (a % 65536 + 65520 + b % 65536) % 65521 := rfl
  have p1 := join_lo (a % 65536) (b % 65536)
  have p2 := join_hi (a % 65536) (a / 65536) (b / 65536) n q1 q2 q4
  have x1 : (a % 65536 + 65520 + b % 65536) % 65521 < 65521 := Nat.mod_lt _ (by decide)
  have y1 : (a / 65536 + b / 65536 + n % 65521 * (a % 65536 + 65520)) % 65521 < 65521 := Nat.mod_lt _ (by decide)
  generalize (a / 65536 + b / 65536 + n % 65521 * (a % 65536 + 65520)) % 65521 = y at *
  generalize (a % 65536 + 65520 + b % 65536) % 65521 = x at *
  generalize a % 65536 = la at *
  generalize a / 65536 = ha' at *
  generalize b % 65536 = lb at *
  generalize b / 65536 = hb' at *
  go_enter Try.func18, Try.ntmps18
  go_wp2_with fail
  refine h1.mono ?_
  rintro e w' ⟨rfl, rfl⟩
  go_wp2_with fail
  refine h2.mono ?_
  rintro e w' ⟨rfl, rfl⟩
  have P1 := Lib.hid p1
  have P2 := Lib.hid p2
  have Hj := Lib.hid hj
  clear h1 h2 ha hb hf1 hf2 p1 p2 hj
  have hmx := fun (W : World) (ts : Array TypeId) (t : TypeId) => run_max4 (P := Try.prog) W ts t .u64 .u64 .u64 .u64 (la : Int) ha' lb hb'
  have hge : decide (65521 ≤ mx4 (la : Int) ha' lb hb') = false := by
    rw [decide_eq_false_iff_not, mx4_ge]
    omega
  generalize mx4 (la : Int) ha' lb hb' = M at *
  go_wp2_with fail
  rw [P1.out, P2.out]
  refine (checksum_any _ _ w (by omega) (by omega) (by omega) (by omega)).mono ?_
  rintro e w' ⟨rfl, rfl⟩
  clear hmx hge
  go_wp2
  go_ret2
  have e : ((joined a b n : Nat) : Int) = (y : Int) * 65536 + x := by rw [Hj.out]; omega
  rw [e]
  exact ⟨rfl, rfl⟩

/-- Join, of whatever numbers. -/
def joinV (a b : Nat) (n : Int) : Value := if 0 ≤ n ∧ fine a = true ∧ fine b = true then .tuple #[.int .u32 (joined a b n.toNat : Nat), .int .i64 0] else .tuple #[.int .u32 0, .int .i64 2]
theorem join_any (a b : Nat) (n : Int) (w : World) (ha : a < 4294967296) (hb : b < 4294967296) (hn1 : -9223372036854775808 ≤ n) (hn2 : n ≤ 9223372036854775807) :
    Calls Try.prog 18 #[.int .u32 a, .int .u32 b, .int .i64 n] w fun e w' => e = .returned (joinV a b n) ∧ w = w' := by
  unfold joinV
  by_cases h : 0 ≤ n ∧ fine a = true ∧ fine b = true
  · rw [if_pos h]
    exact join_ok a b n w ha hb h.1 hn2 h.2.1 h.2.2
  · rw [if_neg h]
    by_cases hn : n < 0
    · exact join_neg a b n w ha hb hn hn1
    · refine join_bad a b n w ha hb (by omega) hn2 ?_
      cases h1 : fine a
      · exact .inl rfl
      · cases h2 : fine b
        · exact .inr rfl
        · exact absurd ⟨by omega, h1, h2⟩ h

theorem rjoin_bad0 (a b : Nat) (n : Int) (w : World) (ha : a < 4294967296) (hb : b < 4294967296)  (h0 : 65521 ≤ a % 65536) :
    Calls Try.prog 19 #[.int .u32 a, .int .u32 b, .int .i64 n] w fun e w' => e = .returned (.tuple #[.int .u32 0, .int .i64 2]) ∧ w = w' := by
  have d0 : decide ((65521 : Int) ≤ (a : Int) % 65536) = true := by rw [decide_eq_true_iff]; omega
  go_enter Try.func19, Try.ntmps19
  go_wp2
  go_ret2
  exact ⟨rfl, rfl⟩

theorem rjoin_bad1 (a b : Nat) (n : Int) (w : World) (ha : a < 4294967296) (hb : b < 4294967296) (h0 : a % 65536 < 65521) (h1 : 65521 ≤ a / 65536) :
    Calls Try.prog 19 #[.int .u32 a, .int .u32 b, .int .i64 n] w fun e w' => e = .returned (.tuple #[.int .u32 0, .int .i64 2]) ∧ w = w' := by
  have d0 : decide ((65521 : Int) ≤ (a : Int) % 65536) = false := by rw [decide_eq_false_iff_not]; omega
  have d1 : decide ((65521 : Int) ≤ (a : Int) / 65536) = true := by rw [decide_eq_true_iff]; omega
  go_enter Try.func19, Try.ntmps19
  go_wp2
  go_ret2
  exact ⟨rfl, rfl⟩

theorem rjoin_bad2 (a b : Nat) (n : Int) (w : World) (ha : a < 4294967296) (hb : b < 4294967296) (h0 : a % 65536 < 65521) (h1 : a / 65536 < 65521) (h2 : 65521 ≤ b % 65536) :
    Calls Try.prog 19 #[.int .u32 a, .int .u32 b, .int .i64 n] w fun e w' => e = .returned (.tuple #[.int .u32 0, .int .i64 2]) ∧ w = w' := by
  have d0 : decide ((65521 : Int) ≤ (a : Int) % 65536) = false := by rw [decide_eq_false_iff_not]; omega
  have d1 : decide ((65521 : Int) ≤ (a : Int) / 65536) = false := by rw [decide_eq_false_iff_not]; omega
  have d2 : decide ((65521 : Int) ≤ (b : Int) % 65536) = true := by rw [decide_eq_true_iff]; omega
  go_enter Try.func19, Try.ntmps19
  go_wp2
  go_ret2
  exact ⟨rfl, rfl⟩

theorem rjoin_bad3 (a b : Nat) (n : Int) (w : World) (ha : a < 4294967296) (hb : b < 4294967296) (h0 : a % 65536 < 65521) (h1 : a / 65536 < 65521) (h2 : b % 65536 < 65521) (h3 : 65521 ≤ b / 65536) :
    Calls Try.prog 19 #[.int .u32 a, .int .u32 b, .int .i64 n] w fun e w' => e = .returned (.tuple #[.int .u32 0, .int .i64 2]) ∧ w = w' := by
  have d0 : decide ((65521 : Int) ≤ (a : Int) % 65536) = false := by rw [decide_eq_false_iff_not]; omega
  have d1 : decide ((65521 : Int) ≤ (a : Int) / 65536) = false := by rw [decide_eq_false_iff_not]; omega
  have d2 : decide ((65521 : Int) ≤ (b : Int) % 65536) = false := by rw [decide_eq_false_iff_not]; omega
  have d3 : decide ((65521 : Int) ≤ (b : Int) / 65536) = true := by rw [decide_eq_true_iff]; omega
  go_enter Try.func19, Try.ntmps19
  go_wp2
  go_ret2
  exact ⟨rfl, rfl⟩

theorem rjoin_neg (a b : Nat) (n : Int) (w : World) (ha : a < 4294967296) (hb : b < 4294967296) (h0 : a % 65536 < 65521) (h1 : a / 65536 < 65521) (h2 : b % 65536 < 65521) (h3 : b / 65536 < 65521) (hn : n < 0) :
    Calls Try.prog 19 #[.int .u32 a, .int .u32 b, .int .i64 n] w fun e w' => e = .returned (.tuple #[.int .u32 0, .int .i64 2]) ∧ w = w' := by
  have d0 : decide ((65521 : Int) ≤ (a : Int) % 65536) = false := by rw [decide_eq_false_iff_not]; omega
  have d1 : decide ((65521 : Int) ≤ (a : Int) / 65536) = false := by rw [decide_eq_false_iff_not]; omega
  have d2 : decide ((65521 : Int) ≤ (b : Int) % 65536) = false := by rw [decide_eq_false_iff_not]; omega
  have d3 : decide ((65521 : Int) ≤ (b : Int) / 65536) = false := by rw [decide_eq_false_iff_not]; omega
  have d5 : decide (n < 0) = true := by simpa using hn
  go_enter Try.func19, Try.ntmps19
  go_wp2
  go_ret2
  exact ⟨rfl, rfl⟩

theorem rjoin_y (la ha hb n : Nat) : (ha + hb + (la + 65520) % 65521 * (n % 65521)) % 65521 = (ha + hb + n % 65521 * (la + 65520)) % 65521 := by
  have h : ((la + 65520) % 65521 * (n % 65521)) % 65521 = (n % 65521 * (la + 65520)) % 65521 := by
    rw [Nat.mod_mul_mod, Nat.mul_mod_mod, Nat.mod_mul_mod, Nat.mul_comm]
  rw [Nat.add_mod, h, ← Nat.add_mod]

theorem rjoin_end (y x : Nat) (hy : y < 65521) (hx : x < 65521) : IntKind.u64.wrap (IntKind.u64.wrap ((y : Int) * 65536) + (x : Int)) % 4294967296 = ((y * 65536 + x : Nat) : Int) := by
  rw [IntWalk.u64_in ((y : Int) * 65536) ⟨by omega, by omega⟩, IntWalk.u64_in _ ⟨by omega, by omega⟩]
  omega
theorem rjoin_val (LA HA LB HB N : Int) (la ha lb hb n : Nat) (e1 : LA = la) (e2 : HA = ha) (e3 : LB = lb) (e4 : HB = hb) (e5 : N = n) (h1 : la < 65521) (h2 : ha < 65521) (h3 : hb < 65521) :
    IntKind.u64.wrap (IntKind.u64.wrap ((IntKind.u64.wrap (HA + HB + IntKind.u64.wrap ((LA + 65521 - 1) % 65521 * (N % 65521)))).tmod 65521 * 65536) + (LB + (LA + 65521 - 1)) % 65521) % 4294967296 =
      (((ha + hb + n % 65521 * (la + 65520)) % 65521 * 65536 + (la + 65520 + lb) % 65521 : Nat) : Int) := by
  subst e2 e4
  rw [mul_nat ((la + 65520) % 65521) (n % 65521) ((LA + 65521 - 1) % 65521) (N % 65521) (by omega) (by omega), join_hi' _ ha hb (mul_le' _ _ (by omega) (by omega)) h2 h3, rjoin_y]
  have ex : (LB + (LA + 65521 - 1)) % 65521 = (((la + 65520 + lb) % 65521 : Nat) : Int) := by omega
  rw [ex]
  exact rjoin_end _ _ (Nat.mod_lt _ (by decide)) (Nat.mod_lt _ (by decide))

theorem rjoin_ok (a b : Nat) (n : Int) (w : World) (ha : a < 4294967296) (hb : b < 4294967296) (h0 : a % 65536 < 65521) (h1 : a / 65536 < 65521) (h2 : b % 65536 < 65521) (h3 : b / 65536 < 65521) (hn : 0 ≤ n) (hn2 : n ≤ 9223372036854775807) :
    Calls Try.prog 19 #[.int .u32 a, .int .u32 b, .int .i64 n] w fun e w' => e = .returned (.tuple #[.int .u32 (joined a b n.toNat : Nat), .int .i64 0]) ∧ w = w' := by
  have d0 : decide ((65521 : Int) ≤ (a : Int) % 65536) = false := by rw [decide_eq_false_iff_not]; omega
  have d1 : decide ((65521 : Int) ≤ (a : Int) / 65536) = false := by rw [decide_eq_false_iff_not]; omega
  have d2 : decide ((65521 : Int) ≤ (b : Int) % 65536) = false := by rw [decide_eq_false_iff_not]; omega
  have d3 : decide ((65521 : Int) ≤ (b : Int) / 65536) = false := by rw [decide_eq_false_iff_not]; omega
  have d5 : decide (n < 0) = false := by simp; omega
  have eu : IntKind.u64.wrap n = n := IntWalk.u64_in _ (by omega)
  obtain ⟨n, rfl⟩ := Int.eq_ofNat_of_zero_le hn
  rw [Int.toNat_natCast]
  go_enter Try.func19, Try.ntmps19
  go_wp2
  go_ret2
  have e := rjoin_val ((a : Int) % 65536) ((a : Int) / 65536) ((b : Int) % 65536) ((b : Int) / 65536) n (a % 65536) (a / 65536) (b % 65536) (b / 65536) n (by omega) (by omega) (by omega) (by omega) rfl h0 h1 h3
  unfold joined
  rw [← e]
  exact ⟨rfl, rfl⟩
theorem rjoin_any (a b : Nat) (n : Int) (w : World) (ha : a < 4294967296) (hb : b < 4294967296) (hn2 : n ≤ 9223372036854775807) :
    Calls Try.prog 19 #[.int .u32 a, .int .u32 b, .int .i64 n] w fun e w' => e = .returned (joinV a b n) ∧ w = w' := by
  unfold joinV
  by_cases h0 : a % 65536 < 65521
  · by_cases h1 : a / 65536 < 65521
    · by_cases h2 : b % 65536 < 65521
      · by_cases h3 : b / 65536 < 65521
        · by_cases h : 0 ≤ n
          · rw [if_pos ⟨h, (fine_iff a).2 ⟨h0, h1⟩, (fine_iff b).2 ⟨h2, h3⟩⟩]
            exact rjoin_ok a b n w ha hb h0 h1 h2 h3 h hn2
          · rw [if_neg (fun c => h c.1)]
            exact rjoin_neg a b n w ha hb h0 h1 h2 h3 (by omega)
        · rw [if_neg (fun c => h3 ((fine_iff b).1 c.2.2).2)]
          exact rjoin_bad3 a b n w ha hb h0 h1 h2 (by omega)
      · rw [if_neg (fun c => h2 ((fine_iff b).1 c.2.2).1)]
        exact rjoin_bad2 a b n w ha hb h0 h1 (by omega)
    · rw [if_neg (fun c => h1 ((fine_iff a).1 c.2.1).2)]
      exact rjoin_bad1 a b n w ha hb h0 (by omega)
  · rw [if_neg (fun c => h0 ((fine_iff a).1 c.2.1).1)]
    exact rjoin_bad0 a b n w ha hb (by omega)
end Go.Proofs.Ytpgjnmakpghamaa

/- The kit's Own and Pick; DigestNil. -/
import Derived.Test.YtpgjnmakpghamaaDoorDgLives
import Derived.DeepKeys
namespace Go.Proofs.YtpgjnmakpghamaaDoor
open Go.RowKit
set_option linter.unusedVariables false

theorem own_any (w : World) (B n c : Nat) (A : Option Addr) (l : List UInt8) (h : Byt w B A n c l) (hB : B ≤ w.heap.size) (hn : n ≤ 1099511627776) :
    Calls Tryd.prog 15 #[.slice A n c] w fun e w' => ∃ A' c', e = .returned (.slice A' n c') ∧ Own w' w.heap.size A' n c' l ∧ (A' = none → n = 0 ∧ c' = 0) ∧ Below w.heap.size w w' := by
  have Hb := Lib.hid ((h.more hB).alloc (Nat.le_refl _) (.cells #[] 5))
  have ho : Own (w.alloc (.cells #[] 5)) w.heap.size (some ⟨w.heap.size, 0, none⟩) 0 0 [] := Own.lit w #[] [] rfl (Nat.zero_le _)
  clear h
  go_enter Tryd.func15, Tryd.ntmps15
  go_wp2_with (at_builtin; refine wpList_byte_append rfl (.tmp 3) (.tmp 4) rfl w.heap.size _ 0 0 [] rfl ho w.heap.size _ n c l rfl Hb.out (by omega) (by simp) ?_; intro A2 c2 w2 hown2 hgr2 hat2)
  go_ret
  rw [Nat.zero_add] at hown2
  refine ⟨A2, c2, rfl, hown2, fun hA => ?_, ((Below.refl _ _).alloc (Nat.le_refl _) _).grown hgr2 (by simp) fun k hk => (World.ownsRow.lt ho k hk).1⟩
  subst hA
  rcases hown2.2 with ⟨hv, hn0⟩ | ⟨g, cap, cur, hv, _⟩
  · injection hv with _ _ hc0
    exact ⟨hn0, hc0⟩
  · injection hv with hv
    cases hv

theorem neg_lt_tmod (n m : Int) (h : 0 < m) : -m < n.tmod m := by
  have := Int.tmod_lt_of_pos (-n) h
  rw [Int.neg_tmod] at this
  omega
/-- What Pick returns. -/
def pickOf (n m : Int) : Int := if n.tmod m < 0 then n.tmod m + m else n.tmod m
theorem pick_any (n m : Int) (w : World) (h1 : 1 ≤ m) (h2 : m ≤ 4611686018427387904) (h3 : -9223372036854775808 ≤ n) (h4 : n ≤ 9223372036854775807) :
    Calls Tryd.prog 28 #[.int .i64 n, .int .i64 m] w fun e w' => e = .returned (.int .i64 (pickOf n m)) ∧ w = w' := by
  have hm0 : ¬ m = 0 := by omega
  have t1 := Int.tmod_lt_of_pos n (show 0 < m by omega)
  have t2 := neg_lt_tmod n m (by omega)
  unfold pickOf
  by_cases hneg : n.tmod m < 0
  · rw [if_pos hneg]
    go_enter Tryd.func28, Tryd.ntmps28
    go_wp2
    go_ret
    exact ⟨rfl, rfl⟩
  · rw [if_neg hneg]
    go_enter Tryd.func28, Tryd.ntmps28
    go_wp2
    go_ret
    exact ⟨rfl, rfl⟩
theorem pickOf_lo (n m : Int) (h : 1 ≤ m) : 0 ≤ pickOf n m := by
  unfold pickOf
  have := neg_lt_tmod n m (by omega)
  split <;> omega
theorem pickOf_hi (n m : Int) (h : 1 ≤ m) : pickOf n m < m := by
  unfold pickOf
  have := Int.tmod_lt_of_pos n (show 0 < m by omega)
  split <;> omega


/-! ### '==' of arrays of numbers -/
theorem run_eqItems_self (w : World) (d : Nat) (e : TypeId) (k : IntKind) (he : Tryd.prog.underlying e = some (.int k)) (hs : (Tryd.prog.info? e).map (·.size) = some 1) (xs : Array Value) :
    ∀ is : List Nat, (∀ i ∈ is, ∃ a, xs[i]? = some (.int k a)) → (Op.eqItems (d + 1) e 1 xs xs is).run Tryd.prog w = .ok true w
  | [], _ => by simp [Op.eqItems]
  | i :: is, h => by
    obtain ⟨a, ha⟩ := h i (by simp)
    have ih := run_eqItems_self w d e k he hs xs is (fun j hj => h j (by simp [hj]))
    have hagg : (isAgg e).run Tryd.prog w = .ok false w := by
      unfold isAgg
      rw [Sem.run_bind, run_underlying he w]
      rfl
    have heq := run_equalIn_int (P := Tryd.prog) w d e k k a a he
    simp [Op.eqItems, Sem.run_bind, part, hagg, ha, heq, ih]
theorem run_equal_arr (w : World) (t e : TypeId) (n : Nat) (k : IntKind) (ht : Tryd.prog.underlying t = some (.array n e)) (he : Tryd.prog.underlying e = some (.int k)) (hs : (Tryd.prog.info? e).map (·.size) = some 1) (xs : Array Value) (h : ∀ i, i < n → ∃ a, xs[i]? = some (.int k a)) :
    (Op.equalIn 10000 t (.agg xs) (.agg xs)).run Tryd.prog w = .ok true w := by
  cases hq : Tryd.prog.info? e with
  | none => simp [hq] at hs
  | some inf =>
    have hsz : inf.size = 1 := by simpa [hq] using hs
    have hr := run_eqItems_self w 9998 e k he hs xs (List.range n) (fun i hi => h i (List.mem_range.1 hi))
    have hc : Tryd.prog.cellsOf e = 1 := by simp [Program.cellsOf, hq, hsz]
    rw [show (10000 : Nat) = 9999 + 1 from rfl, run_equalIn_array w 9999 xs xs ht hq, hc]
    exact hr
theorem run_equal_digest (w : World) (d : List Nat) (hd : d.length = 32) : (Op.equalIn 10000 23 (.agg (u8s d)) (.agg (u8s d))).run Tryd.prog w = .ok true w :=
  run_equal_arr w 23 5 32 .u8 Tryd.underlying23 Tryd.underlying5 (by kernel_rfl) (u8s d) fun i hi => ⟨_, u8s_get d i (by rw [hd]; exact hi)⟩

theorem valid_nil (w : World) : Calls Tryd.prog 42 #[.pointer none] w fun e w' => e = .returned (.bool false) ∧ w = w' := by
  go_enter Tryd.func42, Tryd.ntmps42
  go_wp2
  go_ret
  exact ⟨rfl, rfl⟩
theorem write_nil (w : World) (n c : Nat) (A : Option Addr) : Calls Tryd.prog 24 #[.pointer none, .slice A n c] w fun e w' => e = .returned (.int .i64 1) ∧ w = w' := by
  go_enter Tryd.func24, Tryd.ntmps24
  go_wp2_with fail
  refine (valid_nil w).mono ?_
  rintro e w' ⟨rfl, rfl⟩
  go_wp2
  go_ret
  exact ⟨rfl, rfl⟩
theorem size_nil (w : World) : Calls Tryd.prog 26 #[.pointer none] w fun e w' => e = .returned (.int .i64 0) ∧ w = w' := by
  go_enter Tryd.func26, Tryd.ntmps26
  go_wp2_with fail
  refine (valid_nil w).mono ?_
  rintro e w' ⟨rfl, rfl⟩
  go_wp2
  go_ret
  exact ⟨rfl, rfl⟩
theorem sum_nil (w : World) : Calls Tryd.prog 25 #[.pointer none] w fun e w' => e = .returned (.agg (u8s (List.replicate 32 0))) ∧ Below w.heap.size w w' := by
  have hal : Below w.heap.size w (w.alloc (.cells (u8s (List.replicate 32 0)) 23)) := (Below.refl _ _).alloc (Nat.le_refl _) _
  have hr := BlkIs.new w 23 (u8s (List.replicate 32 0))
  have Hal := Lib.hid hal
  have Hr := Lib.hid hr
  have hz32 : (u8s (List.replicate 32 0)).size = 32 := by rw [u8s_size]; simp
  have Hz32 := Lib.hid hz32
  clear hal hr hz32
  go_enter Tryd.func25, Tryd.ntmps25
  go_wp2_with fail
  rw [← zeros32]
  refine (valid_nil _).mono ?_
  rintro e w' ⟨rfl, rfl⟩
  go_wp2_with (rw [← zeros32]; refine wp_store_blk rfl 23 (.tmp 2) (.tmp 6) rfl w.heap.size rfl (u8s (List.replicate 32 0)) rfl Hr.out (by rw [info32, Hz32.out]) rfl (u8s_one _) ?_)
  refine bodyPost_ret (results_cell_row rfl _ _ w.heap.size 23 (u8s (List.replicate 32 0)) (0, 0) _ rfl (heap_setRow_same Hr.out _) Tryd.underlying23 rfl (by rw [info32, Hz32.out])) rfl ?_
  exact ⟨rfl, Hal.out.grown (grown_setRow _ _ _) Hal.out.size (by intro q hq; injection hq with hq; omega)⟩

theorem law_nil (w : World) (hp : Primes w) (n c : Nat) (A : Option Addr) (l : List UInt8) (hb : Byt w w.heap.size A n c l) :
    Calls Tryd.prog 5 #[.slice A n c] w (LivesPost w) := by
  have Hb := Lib.hid hb
  have Hl := Lib.hid (lives_any w hp)
  have hle := hb.le
  have hcap := hb.cap
  unfold maxLen at hcap
  clear hb hp
  by_cases hbig : 3000 < n
  · have d1 : decide ((3000 : Int) < n) = true := by simp; omega
    go_enter Tryd.func5, Tryd.ntmps5
    go_wp2_with fail
    refine Hl.out.mono ?_
    rintro e w1 ⟨rfl, hb1⟩
    go_wp2
    go_ret
    exact ⟨rfl, hb1⟩
  · have d1 : decide ((3000 : Int) < n) = false := by simp; omega
    go_enter Tryd.func5, Tryd.ntmps5
    go_wp2_with fail
    refine Hl.out.mono ?_
    rintro e w1 ⟨rfl, hb1⟩
    have B1 := Lib.hid hb1
    clear hb1
    go_wp2_with fail
    refine (own_any w1 w.heap.size n c A l (Hb.out.same B1.out) B1.out.size (by omega)).mono ?_
    rintro e w2 ⟨A2, c2, rfl, -, -, hb2⟩
    have B2 := Lib.hid (Below.onR B1.out hb2)
    clear hb2
    go_wp2_with fail
    refine (write_nil w2 n c2 A2).mono ?_
    rintro e w' ⟨rfl, rfl⟩
    go_wp2_with fail
    refine (sum_nil w2).mono ?_
    rintro e w3 ⟨rfl, hb3⟩
    have B3 := Lib.hid (Below.onR B2.out hb3)
    clear hb3
    have heq : ∀ W : World, (Op.equalIn 10000 23 (.agg (u8s (List.replicate 32 0))) (.agg (u8s (List.replicate 32 0)))).run Tryd.prog W = .ok true W := fun W => run_equal_digest W (List.replicate 32 0) (by simp)
    rw [zeros32] at heq ⊢
    go_wp2_with fail
    refine (size_nil w3).mono ?_
    rintro e w' ⟨rfl, rfl⟩
    go_wp2
    go_ret
    exact ⟨rfl, B3.out⟩
end Go.Proofs.YtpgjnmakpghamaaDoor

/- Contracts: the initial state and the constants. -/
import Derived.Test.YtpgjnmakpghamaaDoorDgMem
namespace Go.Proofs.YtpgjnmakpghamaaDoor
open Go.RowKit
set_option linter.unusedVariables false

/-- The first i of L, and zeros behind them. -/
def filled (L : List Nat) (i : Nat) : List Nat := L.take i ++ List.replicate (L.length - i) 0
theorem filled_length (L : List Nat) (i : Nat) (h : i ≤ L.length) : (filled L i).length = L.length := by simp [filled]; omega
theorem filled_set (L : List Nat) (i : Nat) (h : i < L.length) : (filled L i).set i (L.getD i 0) = filled L (i + 1) := by
  unfold filled
  rw [List.set_append, List.length_take, Nat.min_eq_left (by omega), if_neg (by omega), Nat.sub_self, show L.length - i = (L.length - (i + 1)) + 1 by omega, List.replicate_succ, List.set_cons_zero,
    List.take_succ_eq_append_getElem h, List.append_assoc, List.getD, List.getElem?_eq_getElem h]
  rfl
theorem filled_end (L : List Nat) : filled L L.length = L := by simp [filled]

theorem filled_zero (L : List Nat) : filled L 0 = List.replicate L.length 0 := by simp [filled]
theorem primesL_length : primesL.length = 64 := rfl
theorem H0_length : H0.length = 8 := by rw [H0, List.length_map, List.length_take, primesL_length]; rfl
theorem K0_length : K0.length = 64 := by rw [K0, List.length_map, primesL_length]
theorem H0_at (i : Nat) (h : i < 8) : H0.getD i 0 = rootS (primesL.getD i 0) % 4294967296 := by
  have : primesL[i]? = some (primesL[i]'(by rw [primesL_length]; omega)) := List.getElem?_eq_getElem _
  rw [H0, List.getD, List.getElem?_map, List.getElem?_take_of_lt h, List.getD, this, Option.map_some, Option.getD_some, Option.getD_some]
theorem K0_at (i : Nat) (h : i < 64) : K0.getD i 0 = rootC (primesL.getD i 0) % 4294967296 := by
  have : primesL[i]? = some (primesL[i]'(by rw [primesL_length]; omega)) := List.getElem?_eq_getElem _
  rw [K0, List.getD, List.getElem?_map, List.getD, this, Option.map_some, Option.getD_some, Option.getD_some]
theorem zeros8 : u32s (filled H0 0) = #[.int .u32 0, .int .u32 0, .int .u32 0, .int .u32 0, .int .u32 0, .int .u32 0, .int .u32 0, .int .u32 0] := by rw [filled_zero, H0_length]; rfl
theorem info8 : (Tryd.prog.info? 29).map (·.size) = some 8 := by kernel_rfl

set_option maxRecDepth 100000 in
theorem begin_any (w : World) (hp : Primes w) :
    Calls Tryd.prog 10 #[] w fun e w' => e = .returned (.agg (u32s H0)) ∧ Below w.heap.size w w' := by
  have Hp := Lib.hid hp
  clear hp
  go_enter Tryd.func10, Tryd.ntmps10
  go_wp2
  rw [← zeros8]
  obtain ⟨W0, hW0⟩ : ∃ W, (w.alloc (.cells (u32s (filled H0 0)) 29)).alloc (.cells (u32s (filled H0 0)) 29) = W := ⟨_, rfl⟩
  have hb0 : BlkIs W0 w.heap.size 29 (u32s (filled H0 0)) := by rw [← hW0]; exact (BlkIs.new w _ _).here ((Below.refl _ _).alloc (Nat.le_refl _) _)
  have hb1 : BlkIs W0 (w.heap.size + 1) 29 (u32s (filled H0 0)) := by rw [← hW0]; simpa using BlkIs.new (w.alloc (.cells (u32s (filled H0 0)) 29)) 29 (u32s (filled H0 0))
  have hbel : Below w.heap.size w W0 := by rw [← hW0]; exact ((Below.refl _ _).alloc (Nat.le_refl _) _).alloc (by simp) _
  rw [hW0]
  have Hb0 := Lib.hid hb0
  have Hb1 := Lib.hid hb1
  have Hbel := Lib.hid hbel
  clear hW0 hb0 hb1 hbel
  go_loopw [3] (fun x wr => ∃ i : Nat, x = .int .i64 i ∧ i ≤ 8 ∧ BlkIs wr w.heap.size 29 (u32s (filled H0 0)) ∧ BlkIs wr (w.heap.size + 1) 29 (u32s (filled H0 i)) ∧ Below w.heap.size w wr) (fun x _ => 8 - (intOf x).toNat)
  case atStart => exact ⟨0, rfl, by omega, Hb0.out, Hb1.out, Hbel.out⟩
  case round =>
    obtain ⟨i, rfl, hi, hb0, hb1, hbel⟩ := hrel
    clear Hb0 Hb1 Hbel
    have Hb0 := Lib.hid hb0
    have Hb1 := Lib.hid hb1
    have Hbel := Lib.hid hbel
    by_cases hlt : i < 8
    · have hpr := (Hp.out.here hbel).cell i (by omega)
      have hple := primes_le i
      have hval := H0_at i hlt
      generalize primesL.getD i 0 = p at *
      have Hr := Lib.hid (root_sq p hple wr)
      generalize rootS p = R at *
      have hset := filled_set H0 i (by rw [H0_length]; exact hlt)
      rw [hval] at hset
      have Hset := Lib.hid hset
      have c1 : wr.cell? ⟨w.heap.size + 1, i, none⟩ = some (.int .u32 ((filled H0 i).getD i 0 : Nat)) := by rw [hb1.cell]; exact u32s_get _ _ (by rw [filled_length _ _ (by rw [H0_length]; omega), H0_length]; exact hlt)
      have f1 := hb1.frozen i
      have i1 : (i : Int) < 8 := by omega
      have i0 : (0 : Int) ≤ i := by omega
      clear hval hset hb0 hb1 hbel
      go_wp2_with fail
      refine Hr.out.mono ?_
      rintro e w' ⟨rfl, rfl⟩
      go_wp2
      go_roundw
      case rel =>
        have hs := Hb1.out.set i (.int .u32 ((R % 4294967296 : Nat) : Int))
        rw [u32s_set, Hset.out] at hs
        rw [show ((R % 4294967296 : Nat) : Int) = (R : Int) % 4294967296 by omega] at hs
        exact ⟨i + 1, by go_num, by omega, (Hb0.out.grown (row := some (w.heap.size + 1)) (grown_set wr _ _ _) (by simp)), hs, Hbel.out.grown (grown_set wr _ _ _) Hbel.out.size (by intro k hk; injection hk with hk; omega)⟩
      case measure => simp [intOf]; omega
    · obtain rfl : i = 8 := by omega
      have h8 := filled_end H0
      rw [H0_length] at h8
      rw [h8] at Hb1
      have hsz : (u32s H0).size = 8 := by rw [u32s_size, H0_length]
      have Hsz := Lib.hid hsz
      have Hs0 : Hid ((u32s (filled H0 0)).size = 8) := by unfold Hid; rw [u32s_size, filled_length _ _ (Nat.zero_le _), H0_length]
      clear hsz h8
      go_wp2_with (first
        | (refine wpList_load_row rfl 29 (.tmp 1) rfl (w.heap.size + 1) rfl 29 (u32s H0) (0, 0) _ Hb1.out Tryd.underlying29 rfl (by rw [info8, Hsz.out]) ?_)
        | (refine wp_store_blk rfl 29 (.tmp 0) (.tmp 14) rfl w.heap.size rfl (u32s H0) rfl Hb0.out (by rw [info8, Hsz.out]) (by rw [Hs0.out, Hsz.out]) (u32s_one _) ?_))
      refine bodyPost_ret (results_cell_row rfl _ _ w.heap.size 29 (u32s H0) (0, 0) _ rfl (heap_setRow_same Hb0.out _) Tryd.underlying29 rfl (by rw [info8, Hsz.out])) rfl ?_
      exact ⟨rfl, Hbel.out.grown (grown_setRow _ _ _) Hbel.out.size (by intro k hk; injection hk with hk; omega)⟩

theorem zeros64 : u32s (filled K0 0) = #[.int .u32 0, .int .u32 0, .int .u32 0, .int .u32 0, .int .u32 0, .int .u32 0, .int .u32 0, .int .u32 0, .int .u32 0, .int .u32 0, .int .u32 0, .int .u32 0, .int .u32 0, .int .u32 0, .int .u32 0, .int .u32 0, .int .u32 0, .int .u32 0, .int .u32 0, .int .u32 0, .int .u32 0, .int .u32 0, .int .u32 0, .int .u32 0, .int .u32 0, .int .u32 0, .int .u32 0, .int .u32 0, .int .u32 0, .int .u32 0, .int .u32 0, .int .u32 0, .int .u32 0, .int .u32 0, .int .u32 0, .int .u32 0, .int .u32 0, .int .u32 0, .int .u32 0, .int .u32 0, .int .u32 0, .int .u32 0, .int .u32 0, .int .u32 0, .int .u32 0, .int .u32 0, .int .u32 0, .int .u32 0, .int .u32 0, .int .u32 0, .int .u32 0, .int .u32 0, .int .u32 0, .int .u32 0, .int .u32 0, .int .u32 0, .int .u32 0, .int .u32 0, .int .u32 0, .int .u32 0, .int .u32 0, .int .u32 0, .int .u32 0, .int .u32 0] := by rw [filled_zero, K0_length]; rfl
theorem info64 : (Tryd.prog.info? 31).map (·.size) = some 64 := by kernel_rfl
theorem info64p : (Tryd.prog.info? 57).map (·.size) = some 64 := by kernel_rfl

set_option maxRecDepth 100000 in
theorem constants_any (w : World) (hp : Primes w) :
    Calls Tryd.prog 11 #[] w fun e w' => e = .returned (.agg (u32s K0)) ∧ Below w.heap.size w w' := by
  have Hp := Lib.hid hp
  clear hp
  go_enter Tryd.func11, Tryd.ntmps11
  go_wp2_with (refine wpList_load_row rfl 57 (.global 0) rfl 0 rfl _ primesV _ _ (Hp.out.here (((Below.refl _ _).alloc (Nat.le_refl _) _).alloc (by simp) _)).choose_spec.choose_spec Tryd.underlying57 rfl (by rw [info64p, primesV_size]) ?_)
  rw [← zeros64]
  obtain ⟨W0, hW0⟩ : ∃ W, (w.alloc (.cells (u32s (filled K0 0)) 31)).alloc (.cells (u32s (filled K0 0)) 31) = W := ⟨_, rfl⟩
  have hb0 : BlkIs W0 w.heap.size 31 (u32s (filled K0 0)) := by rw [← hW0]; exact (BlkIs.new w _ _).here ((Below.refl _ _).alloc (Nat.le_refl _) _)
  have hb1 : BlkIs W0 (w.heap.size + 1) 31 (u32s (filled K0 0)) := by rw [← hW0]; simpa using BlkIs.new (w.alloc (.cells (u32s (filled K0 0)) 31)) 31 (u32s (filled K0 0))
  have hbel : Below w.heap.size w W0 := by rw [← hW0]; exact ((Below.refl _ _).alloc (Nat.le_refl _) _).alloc (by simp) _
  rw [hW0]
  have Hb0 := Lib.hid hb0
  have Hb1 := Lib.hid hb1
  have Hbel := Lib.hid hbel
  clear hW0 hb0 hb1 hbel
  go_loopw [5] (fun x wr => ∃ i : Nat, x = .int .i64 i ∧ i ≤ 64 ∧ BlkIs wr w.heap.size 31 (u32s (filled K0 0)) ∧ BlkIs wr (w.heap.size + 1) 31 (u32s (filled K0 i)) ∧ Below w.heap.size w wr) (fun x _ => 64 - (intOf x).toNat)
  case atStart => exact ⟨0, rfl, by omega, Hb0.out, Hb1.out, Hbel.out⟩
  case round =>
    obtain ⟨i, rfl, hi, hb0, hb1, hbel⟩ := hrel
    clear Hb0 Hb1 Hbel
    have Hb0 := Lib.hid hb0
    have Hb1 := Lib.hid hb1
    have Hbel := Lib.hid hbel
    by_cases hlt : i < 64
    · have hpr := primesV_get i hlt
      have hple := primes_le i
      have hix := fun W => run_index_arr W 57 55 64 .u64 Tryd.underlying57 Tryd.underlying55 (by kernel_rfl) primesV i _ hlt hpr
      have hval := K0_at i hlt
      generalize primesL.getD i 0 = p at *
      have Hr := Lib.hid (root_cu p hple wr)
      generalize rootC p = R at *
      have hset := filled_set K0 i (by rw [K0_length]; exact hlt)
      rw [hval] at hset
      have Hset := Lib.hid hset
      have c1 : wr.cell? ⟨w.heap.size + 1, i, none⟩ = some (.int .u32 ((filled K0 i).getD i 0 : Nat)) := by rw [hb1.cell]; exact u32s_get _ _ (by rw [filled_length _ _ (by rw [K0_length]; omega), K0_length]; exact hlt)
      have f1 := hb1.frozen i
      have i1 : (i : Int) < 64 := by omega
      have i0 : (0 : Int) ≤ i := by omega
      clear hval hset hb0 hb1 hbel
      go_wp2_with fail
      refine Hr.out.mono ?_
      rintro e w' ⟨rfl, rfl⟩
      go_wp2
      go_roundw
      case rel =>
        have hs := Hb1.out.set i (.int .u32 ((R % 4294967296 : Nat) : Int))
        rw [u32s_set, Hset.out] at hs
        rw [show ((R % 4294967296 : Nat) : Int) = (R : Int) % 4294967296 by omega] at hs
        exact ⟨i + 1, by go_num, by omega, (Hb0.out.grown (row := some (w.heap.size + 1)) (grown_set wr _ _ _) (by simp)), hs, Hbel.out.grown (grown_set wr _ _ _) Hbel.out.size (by intro k hk; injection hk with hk; omega)⟩
      case measure => simp [intOf]; omega
    · obtain rfl : i = 64 := by omega
      have h8 := filled_end K0
      rw [K0_length] at h8
      rw [h8] at Hb1
      have hsz : (u32s K0).size = 64 := by rw [u32s_size, K0_length]
      have Hsz := Lib.hid hsz
      have Hs0 : Hid ((u32s (filled K0 0)).size = 64) := by unfold Hid; rw [u32s_size, filled_length _ _ (Nat.zero_le _), K0_length]
      clear hsz h8
      go_wp2_with (first
        | (refine wpList_load_row rfl 31 (.tmp 1) rfl (w.heap.size + 1) rfl 31 (u32s K0) (0, 0) _ Hb1.out Tryd.underlying31 rfl (by rw [info64, Hsz.out]) ?_)
        | (refine wp_store_blk rfl 31 (.tmp 0) (.tmp 15) rfl w.heap.size rfl (u32s K0) rfl Hb0.out (by rw [info64, Hsz.out]) (by rw [Hs0.out, Hsz.out]) (u32s_one _) ?_))
      refine bodyPost_ret (results_cell_row rfl _ _ w.heap.size 31 (u32s K0) (0, 0) _ rfl (heap_setRow_same Hb0.out _) Tryd.underlying31 rfl (by rw [info64, Hsz.out])) rfl ?_
      exact ⟨rfl, Hbel.out.grown (grown_setRow _ _ _) Hbel.out.size (by intro k hk; injection hk with hk; omega)⟩
end Go.Proofs.YtpgjnmakpghamaaDoor

/- The reference: Begin, Constants. -/
import Derived.Test.YtpgjnmakpghamaaDoorRfPrimes2
namespace Go.Proofs.YtpgjnmakpghamaaDoor
open Go.RowKit
set_option linter.unusedVariables false

theorem Own64.kept {w w' : World} {B n c g b : Nat} {l : List Nat} (h : Own64 w B (some ⟨g, 0, none⟩) n c l) (hg : w.grownBy w' (some b)) (hne : g ≠ b) : Own64 w' B (some ⟨g, 0, none⟩) n c l :=
  World.ownsRow.kept h hg (.inr (by simp [Value.ownBlock, hne]))

set_option maxRecDepth 100000 in
theorem rbegin_any (w : World) :
    Calls Tryd.prog 23 #[] w fun e w' => e = .returned (.agg (u32s H0)) ∧ Below w.heap.size w w' := by
  go_enter Tryd.func23, Tryd.ntmps23
  go_wp2_with fail
  rw [← zeros8]
  obtain ⟨W0, hW0⟩ : ∃ W, (w.alloc (.cells (u32s (filled H0 0)) 29)).alloc (.cells (u32s (filled H0 0)) 29) = W := ⟨_, rfl⟩
  have hb0 : BlkIs W0 w.heap.size 29 (u32s (filled H0 0)) := by rw [← hW0]; exact (BlkIs.new w _ _).here ((Below.refl _ _).alloc (Nat.le_refl _) _)
  have hb1 : BlkIs W0 (w.heap.size + 1) 29 (u32s (filled H0 0)) := by rw [← hW0]; simpa using BlkIs.new (w.alloc (.cells (u32s (filled H0 0)) 29)) 29 (u32s (filled H0 0))
  have hbel : Below w.heap.size w W0 := by rw [← hW0]; exact ((Below.refl _ _).alloc (Nat.le_refl _) _).alloc (by simp) _
  rw [hW0]
  have Hb0 := Lib.hid hb0
  have Hb1 := Lib.hid hb1
  have Hbel := Lib.hid hbel
  clear hW0 hb0 hb1 hbel
  refine (primes_any W0 8 (by omega)).mono ?_
  rintro e w2 ⟨A, c, rfl, ho, hbw⟩
  obtain ⟨gp, rfl, hgp, -⟩ := ho.block (by omega)
  have hne : w.heap.size + 1 < gp := Nat.lt_of_lt_of_le Hb1.out.lt hgp
  have Hb0' := Lib.hid (Hb0.out.here hbw)
  have Hb1' := Lib.hid (Hb1.out.here hbw)
  have Hbel' := Lib.hid (Below.onR Hbel.out hbw)
  have Ho := Lib.hid (ho.more (Nat.zero_le _) : Own64 w2 0 _ _ _ _)
  have hcp := ho.caps
  have hc1 := hcp.1
  have hc2 := hcp.2
  unfold maxLen at hc2
  clear ho hbw hgp Hb0 Hb1 Hbel hcp
  go_wp2
  go_loopw [3] (fun x wr => ∃ i : Nat, x = .int .i64 i ∧ i ≤ 8 ∧ BlkIs wr w.heap.size 29 (u32s (filled H0 0)) ∧ BlkIs wr (w.heap.size + 1) 29 (u32s (filled H0 i)) ∧ Below w.heap.size w wr ∧ Own64 wr 0 (some ⟨gp, 0, none⟩) 8 c (primesL.take 8)) (fun x _ => 8 - (intOf x).toNat)
  case atStart => exact ⟨0, rfl, by omega, Hb0'.out, Hb1'.out, Hbel'.out, Ho.out⟩
  case round =>
    obtain ⟨i, rfl, hi, hb0, hb1, hbel, ho⟩ := hrel
    clear Hb0' Hb1' Hbel' Ho
    have Hb0 := Lib.hid hb0
    have Hb1 := Lib.hid hb1
    have Hbel := Lib.hid hbel
    have Ho := Lib.hid ho
    by_cases hlt : i < 8
    · have hcell := ho.cell i hlt
      have hgt : (primesL.take 8).getD i 0 = primesL.getD i 0 := by rw [List.getD, List.getD, List.getElem?_take_of_lt hlt]
      rw [hgt] at hcell
      have hple := primes_le i
      have hval := refH i hlt
      generalize primesL.getD i 0 = p at *
      have Hr := Lib.hid (refS p (by omega) wr)
      generalize rootGo (leS p) 37 0 % 4294967296 = R at *
      have hset := filled_set H0 i (by rw [H0_length]; exact hlt)
      rw [← hval] at hset
      have Hset := Lib.hid hset
      have c1 : wr.cell? ⟨w.heap.size + 1, i, none⟩ = some (.int .u32 ((filled H0 i).getD i 0 : Nat)) := by rw [hb1.cell]; exact u32s_get _ _ (by rw [filled_length _ _ (by rw [H0_length]; omega), H0_length]; exact hlt)
      have f1 := hb1.frozen i
      have i1 : (i : Int) < 8 := by omega
      have i0 : (0 : Int) ≤ i := by omega
      clear hval hset hb0 hb1 hbel hgt ho
      go_wp2_with fail
      refine Hr.out.mono ?_
      rintro e w' ⟨rfl, rfl⟩
      go_wp2
      go_roundw
      case rel =>
        have hs := Hb1.out.set i (.int .u32 (R : Int))
        rw [u32s_set, Hset.out] at hs
        exact ⟨i + 1, by go_num, by omega, (Hb0.out.grown (row := some (w.heap.size + 1)) (grown_set wr _ _ _) (by simp)), hs, Hbel.out.grown (grown_set wr _ _ _) Hbel.out.size (by intro k hk; injection hk with hk; omega), Ho.out.kept (grown_set wr _ _ _) (by omega)⟩
      case measure => simp [intOf]; omega
    · obtain rfl : i = 8 := by omega
      have h8 := filled_end H0
      rw [H0_length] at h8
      rw [h8] at Hb1
      have hsz : (u32s H0).size = 8 := by rw [u32s_size, H0_length]
      have Hsz := Lib.hid hsz
      have Hs0 : Hid ((u32s (filled H0 0)).size = 8) := by unfold Hid; rw [u32s_size, filled_length _ _ (Nat.zero_le _), H0_length]
      clear hsz h8 hb0 hb1 hbel ho
      go_wp2_with (first
        | (refine wpList_load_row rfl 29 (.tmp 1) rfl (w.heap.size + 1) rfl 29 (u32s H0) (0, 0) _ Hb1.out Tryd.underlying29 rfl (by rw [info8, Hsz.out]) ?_)
        | (refine wp_store_blk rfl 29 (.tmp 0) (.tmp 16) rfl w.heap.size rfl (u32s H0) rfl Hb0.out (by rw [info8, Hsz.out]) (by rw [Hs0.out, Hsz.out]) (u32s_one _) ?_))
      refine bodyPost_ret (results_cell_row rfl _ _ w.heap.size 29 (u32s H0) (0, 0) _ rfl (heap_setRow_same Hb0.out _) Tryd.underlying29 rfl (by rw [info8, Hsz.out])) rfl ?_
      exact ⟨rfl, Hbel.out.grown (grown_setRow _ _ _) Hbel.out.size (by intro k hk; injection hk with hk; omega)⟩

set_option maxRecDepth 100000 in
theorem rconst_any (w : World) :
    Calls Tryd.prog 22 #[] w fun e w' => e = .returned (.agg (u32s K0)) ∧ Below w.heap.size w w' := by
  go_enter Tryd.func22, Tryd.ntmps22
  go_wp2_with fail
  rw [← zeros64]
  obtain ⟨W0, hW0⟩ : ∃ W, (w.alloc (.cells (u32s (filled K0 0)) 31)).alloc (.cells (u32s (filled K0 0)) 31) = W := ⟨_, rfl⟩
  have hb0 : BlkIs W0 w.heap.size 31 (u32s (filled K0 0)) := by rw [← hW0]; exact (BlkIs.new w _ _).here ((Below.refl _ _).alloc (Nat.le_refl _) _)
  have hb1 : BlkIs W0 (w.heap.size + 1) 31 (u32s (filled K0 0)) := by rw [← hW0]; simpa using BlkIs.new (w.alloc (.cells (u32s (filled K0 0)) 31)) 31 (u32s (filled K0 0))
  have hbel : Below w.heap.size w W0 := by rw [← hW0]; exact ((Below.refl _ _).alloc (Nat.le_refl _) _).alloc (by simp) _
  rw [hW0]
  have Hb0 := Lib.hid hb0
  have Hb1 := Lib.hid hb1
  have Hbel := Lib.hid hbel
  clear hW0 hb0 hb1 hbel
  refine (primes_any W0 64 (by omega)).mono ?_
  rintro e w2 ⟨A, c, rfl, ho, hbw⟩
  obtain ⟨gp, rfl, hgp, -⟩ := ho.block (by omega)
  have hne : w.heap.size + 1 < gp := Nat.lt_of_lt_of_le Hb1.out.lt hgp
  have Hb0' := Lib.hid (Hb0.out.here hbw)
  have Hb1' := Lib.hid (Hb1.out.here hbw)
  have Hbel' := Lib.hid (Below.onR Hbel.out hbw)
  have Ho := Lib.hid (ho.more (Nat.zero_le _) : Own64 w2 0 _ _ _ _)
  have hcp := ho.caps
  have hc1 := hcp.1
  have hc2 := hcp.2
  unfold maxLen at hc2
  clear ho hbw hgp Hb0 Hb1 Hbel hcp
  go_wp2
  go_loopw [3] (fun x wr => ∃ i : Nat, x = .int .i64 i ∧ i ≤ 64 ∧ BlkIs wr w.heap.size 31 (u32s (filled K0 0)) ∧ BlkIs wr (w.heap.size + 1) 31 (u32s (filled K0 i)) ∧ Below w.heap.size w wr ∧ Own64 wr 0 (some ⟨gp, 0, none⟩) 64 c (primesL.take 64)) (fun x _ => 64 - (intOf x).toNat)
  case atStart => exact ⟨0, rfl, by omega, Hb0'.out, Hb1'.out, Hbel'.out, Ho.out⟩
  case round =>
    obtain ⟨i, rfl, hi, hb0, hb1, hbel, ho⟩ := hrel
    clear Hb0' Hb1' Hbel' Ho
    have Hb0 := Lib.hid hb0
    have Hb1 := Lib.hid hb1
    have Hbel := Lib.hid hbel
    have Ho := Lib.hid ho
    by_cases hlt : i < 64
    · have hcell := ho.cell i hlt
      have hgt : (primesL.take 64).getD i 0 = primesL.getD i 0 := by rw [List.getD, List.getD, List.getElem?_take_of_lt hlt]
      rw [hgt] at hcell
      have hple := primes_le i
      have hval := refK i hlt
      generalize primesL.getD i 0 = p at *
      have Hr := Lib.hid (refC p (by omega) wr)
      generalize rootGo (leC p) 37 0 % 4294967296 = R at *
      have hset := filled_set K0 i (by rw [K0_length]; exact hlt)
      rw [← hval] at hset
      have Hset := Lib.hid hset
      have c1 : wr.cell? ⟨w.heap.size + 1, i, none⟩ = some (.int .u32 ((filled K0 i).getD i 0 : Nat)) := by rw [hb1.cell]; exact u32s_get _ _ (by rw [filled_length _ _ (by rw [K0_length]; omega), K0_length]; exact hlt)
      have f1 := hb1.frozen i
      have i1 : (i : Int) < 64 := by omega
      have i0 : (0 : Int) ≤ i := by omega
      clear hval hset hb0 hb1 hbel hgt ho
      go_wp2_with fail
      refine Hr.out.mono ?_
      rintro e w' ⟨rfl, rfl⟩
      go_wp2
      go_roundw
      case rel =>
        have hs := Hb1.out.set i (.int .u32 (R : Int))
        rw [u32s_set, Hset.out] at hs
        exact ⟨i + 1, by go_num, by omega, (Hb0.out.grown (row := some (w.heap.size + 1)) (grown_set wr _ _ _) (by simp)), hs, Hbel.out.grown (grown_set wr _ _ _) Hbel.out.size (by intro k hk; injection hk with hk; omega), Ho.out.kept (grown_set wr _ _ _) (by omega)⟩
      case measure => simp [intOf]; omega
    · obtain rfl : i = 64 := by omega
      have h8 := filled_end K0
      rw [K0_length] at h8
      rw [h8] at Hb1
      have hsz : (u32s K0).size = 64 := by rw [u32s_size, K0_length]
      have Hsz := Lib.hid hsz
      have Hs0 : Hid ((u32s (filled K0 0)).size = 64) := by unfold Hid; rw [u32s_size, filled_length _ _ (Nat.zero_le _), K0_length]
      clear hsz h8 hb0 hb1 hbel ho
      go_wp2_with (first
        | (refine wpList_load_row rfl 31 (.tmp 1) rfl (w.heap.size + 1) rfl 31 (u32s K0) (0, 0) _ Hb1.out Tryd.underlying31 rfl (by rw [info64, Hsz.out]) ?_)
        | (refine wp_store_blk rfl 31 (.tmp 0) (.tmp 16) rfl w.heap.size rfl (u32s K0) rfl Hb0.out (by rw [info64, Hsz.out]) (by rw [Hs0.out, Hsz.out]) (u32s_one _) ?_))
      refine bodyPost_ret (results_cell_row rfl _ _ w.heap.size 31 (u32s K0) (0, 0) _ rfl (heap_setRow_same Hb0.out _) Tryd.underlying31 rfl (by rw [info64, Hsz.out])) rfl ?_
      exact ⟨rfl, Hbel.out.grown (grown_setRow _ _ _) Hbel.out.size (by intro k hk; injection hk with hk; omega)⟩
end Go.Proofs.YtpgjnmakpghamaaDoor

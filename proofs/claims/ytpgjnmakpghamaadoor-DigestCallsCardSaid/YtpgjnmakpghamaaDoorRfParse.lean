/- The reference: Parse. -/
import Derived.Test.YtpgjnmakpghamaaDoorDgParseAny
namespace Go.Proofs.YtpgjnmakpghamaaDoor
open Go.RowKit
set_option linter.unusedVariables false

/-- The bytes behind i digits. -/
def dGo (s : ByteArray) : Nat → List Nat
  | 0 => List.replicate 32 0
  | i + 1 => (dGo s i).set (i / 2) ((dGo s i).getD (i / 2) 0 * 16 + (digV (bs s i)).toNat)
theorem dGo_length (s : ByteArray) : ∀ i, (dGo s i).length = 32
  | 0 => by simp [dGo]
  | i + 1 => by rw [dGo, List.length_set, dGo_length s i]
theorem filled_next (L : List Nat) (k : Nat) (h : k < L.length) : (filled L k).getD k 0 = 0 := by
  unfold filled
  rw [List.getD, List.getElem?_append_right (by rw [List.length_take]; omega)]
  rw [List.getElem?_replicate]
  split <;> rfl
theorem getD_set_self (L : List Nat) (k x : Nat) (h : k < L.length) : (L.set k x).getD k 0 = x := by
  rw [List.getD, List.getElem?_set_self h]
  rfl
theorem dGo_odd (s : ByteArray) (k : Nat) (hk : k < 32) (h : dGo s (2 * k) = filled (pdg s) k) : dGo s (2 * k + 1) = (filled (pdg s) k).set k (digV (bs s (2 * k))).toNat := by
  rw [dGo, h, show 2 * k / 2 = k by omega, filled_next _ _ (by rw [pdg_length]; exact hk)]
  congr 1
  omega
theorem dGo_even (s : ByteArray) : ∀ k, k ≤ 32 → dGo s (2 * k) = filled (pdg s) k
  | 0, _ => by rw [filled_zero, pdg_length]; rfl
  | k + 1, h => by
    have ih := dGo_even s k (by omega)
    have ho := dGo_odd s k (by omega) ih
    have hl : (filled (pdg s) k).length = 32 := by rw [filled_length _ _ (by rw [pdg_length]; omega), pdg_length]
    rw [show 2 * (k + 1) = 2 * k + 1 + 1 by omega, dGo, ho, show (2 * k + 1) / 2 = k by omega, getD_set_self _ _ _ (by rw [hl]; omega), List.set_set, ← pdg_at s k (by omega)]
    exact filled_set _ _ (by rw [pdg_length]; omega)
theorem dGo_val (s : ByteArray) (i : Nat) (hi : i < 64) : (dGo s i).getD (i / 2) 0 ≤ 15 := by
  have hl : (filled (pdg s) (i / 2)).length = 32 := by rw [filled_length _ _ (by rw [pdg_length]; omega), pdg_length]
  by_cases h : i % 2 = 0
  · have e : i = 2 * (i / 2) := by omega
    have := dGo_even s (i / 2) (by omega)
    rw [← e] at this
    rw [this, filled_next _ _ (by rw [pdg_length]; omega)]
    omega
  · have e : i = 2 * (i / 2) + 1 := by omega
    have := dGo_odd s (i / 2) (by omega) (dGo_even s (i / 2) (by omega))
    rw [← e] at this
    rw [this, getD_set_self _ _ _ (by rw [hl]; omega)]
    have := digV_bounds (bs s (2 * (i / 2)))
    omega
theorem dGo_end (s : ByteArray) : dGo s 64 = pdg s := by
  have := dGo_even s 32 (Nat.le_refl _)
  rw [show 2 * 32 = 64 from rfl] at this
  rw [this]
  have := filled_end (pdg s)
  rwa [pdg_length] at this
theorem dGo_bytes (s : ByteArray) : ∀ i, i ≤ 64 → Bytes (dGo s i)
  | 0, _ => fun j => by
    rw [dGo, List.getD, List.getElem?_replicate]
    split <;> decide
  | i + 1, h => by
    rw [dGo]
    refine (dGo_bytes s i (by omega)).set _ _ ?_
    have h1 := dGo_val s i (by omega)
    have h2 := digV_bounds (bs s i)
    omega

set_option maxRecDepth 100000 in
theorem rparse_short (w : World) (s : ByteArray) (hs : s.size ≠ 64) :
    Calls Tryd.prog 13 #[.string s] w fun e w' => e = .returned (.tuple #[.agg (u8s noDigest), .int .i64 2]) ∧ Below w.heap.size w w' := by
  have eb : (((s.size : Nat) : Int) != 64) = true := by simp; omega
  have hal : Below w.heap.size w ((w.alloc (.cells (u8s noDigest) 23)).alloc (.cells (u8s noDigest) 23)) := ((Below.refl _ _).alloc (Nat.le_refl _) _).alloc (by simp) _
  have hr := (BlkIs.new w 23 (u8s noDigest)).here ((Below.refl _ _).alloc (Nat.le_refl _) (.cells (u8s noDigest) 23))
  have hr2 : BlkIs ((w.alloc (.cells (u8s noDigest) 23)).alloc (.cells (u8s noDigest) 23)) (w.heap.size + 1) 23 (u8s noDigest) := by simpa using BlkIs.new (w.alloc (.cells (u8s noDigest) 23)) 23 (u8s noDigest)
  have Hal := Lib.hid hal
  have Hr := Lib.hid hr
  have Hr2 := Lib.hid hr2
  have hz32 : (u8s noDigest).size = 32 := by rw [u8s_size, noDigest_length]
  have Hz32 := Lib.hid hz32
  clear hal hr hr2 hz32 hs
  go_enter Tryd.func13, Tryd.ntmps13
  go_upto_region 3 with fail
  rw [← zerosN]
  generalize (w.alloc (.cells (u8s noDigest) 23)).alloc (.cells (u8s noDigest) 23) = W0 at *
  go_wp2_with (first
    | (refine wpList_load_row rfl 23 (.tmp 4) rfl (w.heap.size + 1) rfl 23 (u8s noDigest) (0, 0) _ Hr2.out Tryd.underlying23 rfl (by rw [info32, Hz32.out]) ?_)
    | (refine wp_store_blk rfl 23 (.tmp 2) (.tmp 10) rfl w.heap.size rfl (u8s noDigest) rfl Hr.out (by rw [info32, Hz32.out]) rfl (u8s_one _) ?_))
  refine bodyPost_ret (results_row_tmp rfl _ _ w.heap.size (u8s noDigest) rfl (run_loadVar_row _ w.heap.size 23 23 (u8s noDigest) (0, 0) _ (heap_setRow_same Hr.out _) Tryd.underlying23 rfl (by rw [info32, Hz32.out]))) rfl ?_
  exact ⟨rfl, Hal.out.grown (grown_setRow _ _ _) Hal.out.size (by intro q hq; injection hq with hq; omega)⟩

set_option maxRecDepth 100000 in
set_option maxHeartbeats 1000000 in
theorem rparse_any (w : World) (s : ByteArray) (hsz : s.size = 64) (R : List Nat) (E : Int) (hR : Parsed s R E) :
    Calls Tryd.prog 13 #[.string s] w fun e w' => e = .returned (.tuple #[.agg (u8s R), .int .i64 E]) ∧ Below w.heap.size w w' := by
  have HR := Lib.hid hR
  have hix : ∀ (W : World) (j : Nat), j < 64 → (Instr.index 9 (.string s) (.int .i64 (j : Int))).run Tryd.prog W = .ok (.int .u8 ((bs s j : Nat) : Int)) W := fun W j hj => run_index_s W s j (by omega)
  have Hix := Lib.hid hix
  have hf0 : noDigest = dGo s 0 := rfl
  have hal : Below w.heap.size w ((w.alloc (.cells (u8s noDigest) 23)).alloc (.cells (u8s noDigest) 23)) := ((Below.refl _ _).alloc (Nat.le_refl _) _).alloc (by simp) _
  have hr := (BlkIs.new w 23 (u8s noDigest)).here ((Below.refl _ _).alloc (Nat.le_refl _) (.cells (u8s noDigest) 23))
  have hr2 : BlkIs ((w.alloc (.cells (u8s noDigest) 23)).alloc (.cells (u8s noDigest) 23)) (w.heap.size + 1) 23 (u8s (dGo s 0)) := by rw [← hf0]; simpa using BlkIs.new (w.alloc (.cells (u8s noDigest) 23)) 23 (u8s noDigest)
  have Hal := Lib.hid hal
  have Hr := Lib.hid hr
  have Hr2 := Lib.hid hr2
  have hz32 : (u8s noDigest).size = 32 := by rw [u8s_size, noDigest_length]
  have Hz32 := Lib.hid hz32
  have eb : (((s.size : Nat) : Int) != 64) = false := by simp; omega
  clear hal hr hr2 hz32 hf0 hix hsz hR
  go_enter Tryd.func13, Tryd.ntmps13
  go_wp2
  rw [← zerosN]
  generalize (w.alloc (.cells (u8s noDigest) 23)).alloc (.cells (u8s noDigest) 23) = W0 at *
  go_loopw [5] (fun x wr => ∃ i : Nat, x = .int .i64 i ∧ i ≤ 64 ∧ BlkIs wr w.heap.size 23 (u8s noDigest) ∧ BlkIs wr (w.heap.size + 1) 23 (u8s (dGo s i)) ∧ Below w.heap.size w wr ∧ Hid (okTo s i)) (fun x _ => 64 - (intOf x).toNat)
  case atStart => exact ⟨0, rfl, by omega, Hr.out, Hr2.out, Hal.out, fun j hj => absurd hj (by omega)⟩
  case round =>
    obtain ⟨i, rfl, hi, hr, hr2, hbel, hok⟩ := hrel
    clear Hr Hr2 Hal
    have Hr := Lib.hid hr
    have Hr2 := Lib.hid hr2
    have Hbel := Lib.hid hbel
    by_cases hlt : i < 64
    · have hi1 := fun W => Hix.out W i hlt
      have X1 := Lib.hid (fun W => digit_any W (bs s i) (bs_lt s _))
      have b1 := digV_bounds (bs s i)
      have hbad1 : digV (bs s i) < 0 → ¬ okTo s 64 := fun h hok => by have := hok i hlt; omega
      have hgood : 0 ≤ digV (bs s i) → okTo s (i + 1) := fun h1 j hj => by
        by_cases ea : j = i
        · rw [ea]; exact h1
        · exact hok.out j (by omega)
      have hval := dGo_val s i hlt
      have hstep : dGo s (i + 1) = (dGo s i).set (i / 2) ((dGo s i).getD (i / 2) 0 * 16 + (digV (bs s i)).toNat) := rfl
      have c1 : wr.cell? ⟨w.heap.size + 1, i / 2, none⟩ = some (.int .u8 ((dGo s i).getD (i / 2) 0 : Nat)) := by rw [hr2.cell]; exact u8s_get _ _ (by rw [dGo_length]; omega)
      have f1 := hr2.frozen (i / 2)
      generalize bs s i = B1 at *
      generalize digV B1 = h at *
      generalize (dGo s i).getD (i / 2) 0 = v at *
      have Hstep := Lib.hid hstep
      have Hbad1 := Lib.hid hbad1
      have Hgood := Lib.hid hgood
      have hb1 := b1.1
      have hb2 := b1.2
      have i1 : (i : Int) / 2 < 32 := by omega
      have i0 : (0 : Int) ≤ (i : Int) / 2 := by omega
      clear hr hr2 hbel hstep hbad1 hgood b1
      go_wp2_with fail
      refine (X1.out wr).mono ?_
      rintro e w' ⟨rfl, rfl⟩
      clear hi1 X1
      by_cases h1 : h < 0
      · have hno : ¬ okTo s 64 := Hbad1.out h1
        have hRe : R = noDigest ∧ E = 2 := by
          rcases HR.out with h | h
          · exact absurd h.1 hno
          · exact h.2
        have HRe := Lib.hid hRe
        have d1 : decide (h < 0) = true := by simp; omega
        clear hno hRe Hbad1 Hgood hok
        go_wp2_with (rw [← zerosN]; refine wp_store_blk rfl 23 (.tmp 2) (.tmp 21) rfl w.heap.size rfl (u8s noDigest) rfl Hr.out (by rw [info32, Hz32.out]) rfl (u8s_one _) ?_)
        refine bodyPost_ret (results_row_tmp rfl _ _ w.heap.size (u8s noDigest) rfl (run_loadVar_row _ w.heap.size 23 23 (u8s noDigest) (0, 0) _ (heap_setRow_same Hr.out _) Tryd.underlying23 rfl (by rw [info32, Hz32.out]))) rfl ?_
        exact ⟨by rw [HRe.out.1, HRe.out.2]; rfl, Hbel.out.grown (grown_setRow _ _ _) Hbel.out.size (by intro q hq; injection hq with hq; omega)⟩
      · obtain ⟨hn, rfl⟩ : ∃ hn : Nat, h = (hn : Int) := ⟨h.toNat, by omega⟩
        have hset := Hstep.out
        simp only [Int.toNat_natCast] at hset
        have hgo := Lib.hid (Hgood.out (by omega))
        have hx256 : v * 16 + hn < 256 := by omega
        have Hset2 := Lib.hid hset
        have d1 : decide ((hn : Int) < 0) = false := by simp
        clear hset Hstep Hgood Hbad1 hok
        go_wp2
        go_roundw
        case rel =>
          have hs := Hr2.out.set (i / 2) (.int .u8 ((v * 16 + hn : Nat) : Int))
          rw [u8s_set, ← Hset2.out] at hs
          exact ⟨i + 1, by go_num, by omega, Hr.out.grown (row := some (w.heap.size + 1)) (grown_set wr _ _ _) (by simp), by simpa using hs, Hbel.out.grown (grown_set wr _ _ _) Hbel.out.size (by intro q hq; injection hq with hq; omega), hgo⟩
        case measure => simp [intOf]; omega
    · obtain rfl : i = 64 := by omega
      rw [dGo_end] at Hr2
      have hs1 : (u8s (pdg s)).size = 32 := by rw [u8s_size, pdg_length]
      have Hs1 := Lib.hid hs1
      have hRd : R = pdg s ∧ E = 0 := by
        rcases HR.out with h | h
        · exact h.2
        · exact absurd hok.out h.1
      have HRd := Lib.hid hRd
      clear hr hr2 hbel hs1 hRd hok
      generalize pdg s = d at *
      go_wp2_with (first
        | (refine wpList_load_row rfl 23 (.tmp 4) rfl (w.heap.size + 1) rfl 23 (u8s d) (0, 0) _ Hr2.out Tryd.underlying23 rfl (by rw [info32, Hs1.out]) ?_)
        | (refine wp_store_blk rfl 23 (.tmp 2) (.tmp 33) rfl w.heap.size rfl (u8s d) rfl Hr.out (by rw [info32, Hs1.out]) (by rw [Hz32.out, Hs1.out]) (u8s_one _) ?_))
      refine bodyPost_ret (results_row_tmp rfl _ _ w.heap.size (u8s d) rfl (run_loadVar_row _ w.heap.size 23 23 (u8s d) (0, 0) _ (heap_setRow_same Hr.out _) Tryd.underlying23 rfl (by rw [info32, Hs1.out]))) rfl ?_
      exact ⟨by rw [HRd.out.1, HRd.out.2]; rfl, Hbel.out.grown (grown_setRow _ _ _) Hbel.out.size (by intro q hq; injection hq with hq; omega)⟩
end Go.Proofs.YtpgjnmakpghamaaDoor

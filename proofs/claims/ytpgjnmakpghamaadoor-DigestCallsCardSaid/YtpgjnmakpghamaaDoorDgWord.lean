/- Contracts: the functions of words. -/
import Derived.Test.YtpgjnmakpghamaaDoorDgBegin
import Derived.Laws.BitsAllLaws
namespace Go.Proofs.YtpgjnmakpghamaaDoor
open Go.RowKit
set_option linter.unusedVariables false

/-- A word turned right. -/
def rot1 (x n : Nat) : Nat := (x / 2 ^ n) ||| (x * 2 ^ (32 - n) % 4294967296)
def rotN (x : Nat) (ns : List Nat) : Nat := ns.foldl (fun y n => y ^^^ rot1 x n) 0

theorem rot1_lt (x n : Nat) (hx : x < 4294967296) : rot1 x n < 4294967296 :=
  Nat.or_lt_two_pow (n := 32) (Nat.lt_of_le_of_lt (Nat.div_le_self _ _) hx) (Nat.mod_lt _ (by omega))
theorem xor_lt (a b : Nat) (ha : a < 4294967296) (hb : b < 4294967296) : a ^^^ b < 4294967296 := Nat.xor_lt_two_pow (n := 32) ha hb
theorem rot_step (Y x n : Nat) (hx : x < 4294967296) (hY : Y < 4294967296) : bits .xor .u32 (Y : Int) (bits .or .u32 ((x : Int) / 2 ^ n) ((x : Int) * 2 ^ (32 - n) % 4294967296)) = ((Y ^^^ rot1 x n : Nat) : Int) := by
  have ep : ∀ k : Nat, ((2 ^ k : Nat) : Int) = (2 : Int) ^ k := fun k => by simp
  have e1 : (x : Int) / 2 ^ n = ((x / 2 ^ n : Nat) : Int) := by rw [← ep]; exact (Int.natCast_ediv x (2 ^ n)).symm
  have e2 : (x : Int) * 2 ^ (32 - n) % 4294967296 = ((x * 2 ^ (32 - n) % 4294967296 : Nat) : Int) := by rw [← ep, ← Int.natCast_mul]; omega
  rw [e1, e2, u32_or_nat _ _ (Nat.lt_of_le_of_lt (Nat.div_le_self _ _) hx) (Nat.mod_lt _ (by omega))]
  exact u32_xor_nat _ _ hY (rot1_lt x n hx)
theorem rotN_lt (x : Nat) (hx : x < 4294967296) (ns : List Nat) : rotN x ns < 4294967296 := by
  unfold rotN
  suffices h : ∀ (ns : List Nat) (y : Nat), y < 4294967296 → ns.foldl (fun y n => y ^^^ rot1 x n) y < 4294967296 from h ns 0 (by omega)
  intro ns
  induction ns with
  | nil => exact fun y h => h
  | cons n r ih => exact fun y h => ih _ (xor_lt _ _ h (rot1_lt x n hx))

set_option maxRecDepth 100000 in
theorem rotated_any (w : World) (x b : Nat) (ns : List Nat) (hx : x < 4294967296) (hn : ns.length ≤ 8) (hns : ∀ n ∈ ns, 1 ≤ n ∧ n ≤ 31) (hc : ∀ j, j < ns.length → w.cell? ⟨b, j, none⟩ = some (.int .u64 (ns.getD j 0 : Nat))) :
    Calls Tryd.prog 57 #[.int .u32 x, .slice (some ⟨b, 0, none⟩) ns.length ns.length] w fun e w' => e = .returned (.int .u32 (rotN x ns : Nat)) ∧ w = w' := by
  have Hns := Lib.hid hns
  have Hc := Lib.hid hc
  obtain ⟨R, hR⟩ : ∃ R, rotN x ns = R := ⟨_, rfl⟩
  rw [hR]
  have Hst : Hid (∀ y, y = 0 → (ns.drop 0).foldl (fun y n => y ^^^ rot1 x n) y = R) := by
    rintro y rfl
    exact hR
  clear hns hc hR
  generalize hlen : ns.length = m at *
  have Hlen := Lib.hid hlen
  clear hlen
  go_enter Tryd.func57, Tryd.ntmps57
  go_wp2
  go_loopw [5, 10] (fun y x1 wr => ∃ Y i : Nat, y = .int .u32 Y ∧ x1 = .int .i64 i ∧ i ≤ m ∧ Y < 4294967296 ∧ wr = w ∧ Hid ((ns.drop i).foldl (fun y n => y ^^^ rot1 x n) Y = R)) (fun _ x1 _ => m - (intOf x1).toNat)
  case atStart => exact ⟨0, 0, rfl, rfl, by omega, by omega, rfl, Hst.out 0 rfl⟩
  case round =>
    obtain ⟨Y, i, rfl, rfl, hi, hY, rfl, hfold⟩ := hrel
    clear Hst
    by_cases hlt : i < m
    · have hc1 := Hc.out i hlt
      have hil : i < ns.length := by rw [Hlen.out]; exact hlt
      have hd : ns.drop i = ns.getD i 0 :: ns.drop (i + 1) := by
        rw [List.drop_eq_getElem_cons hil, List.getD, List.getElem?_eq_getElem hil]
        rfl
      have hnn := Hns.out (ns.getD i 0) (by rw [List.getD, List.getElem?_eq_getElem hil]; exact List.getElem_mem _)
      have hfold2 := hfold.out
      rw [hd, List.foldl_cons] at hfold2
      generalize ns.getD i 0 = n at *
      have Hf := Lib.hid hfold2
      clear hfold hfold2 hd
      have hs := rot_step Y x n hx hY
      have hs2 := Lib.hid hs
      clear hs
      go_wp2
      go_roundw
      case rel => exact ⟨Y ^^^ rot1 x n, i + 1, by rw [hs2.out], by go_num, by omega, xor_lt _ _ hY (rot1_lt x n hx), by simp, Hf.out⟩
      case measure => simp [intOf]; omega
    · obtain rfl : i = m := by omega
      have hf := hfold.out
      rw [List.drop_eq_nil_of_le (by rw [Hlen.out]; exact Nat.le_refl _)] at hf
      obtain rfl : Y = R := hf
      clear hfold
      go_wp2
      go_ret
      exact ⟨rfl, rfl⟩

def big0N (x : Nat) : Nat := rotN x [2, 13, 22]
def big1N (x : Nat) : Nat := rotN x [6, 11, 25]
def small0N (x : Nat) : Nat := rotN x [7, 18] ^^^ x / 8
def small1N (x : Nat) : Nat := rotN x [17, 19] ^^^ x / 1024
theorem big0N_lt (x : Nat) (hx : x < 4294967296) : big0N x < 4294967296 := rotN_lt x hx _
theorem big1N_lt (x : Nat) (hx : x < 4294967296) : big1N x < 4294967296 := rotN_lt x hx _
theorem small0N_lt (x : Nat) (hx : x < 4294967296) : small0N x < 4294967296 := xor_lt _ _ (rotN_lt x hx _) (by omega)
theorem small1N_lt (x : Nat) (hx : x < 4294967296) : small1N x < 4294967296 := xor_lt _ _ (rotN_lt x hx _) (by omega)

theorem big0_any (w : World) (x : Nat) (hx : x < 4294967296) :
    Calls Tryd.prog 51 #[.int .u32 x] w fun e w' => e = .returned (.int .u32 (big0N x : Nat)) ∧ Below w.heap.size w w' := by
  have Hc : Hid (∀ j, j < 3 → (w.alloc (.cells #[.int .u64 2, .int .u64 13, .int .u64 22] 82)).cell? ⟨w.heap.size, j, none⟩ = some (.int .u64 (([2, 13, 22] : List Nat).getD j 0 : Nat))) := fun j hj => by
    rw [(BlkIs.new w 82 #[.int .u64 2, .int .u64 13, .int .u64 22]).cell j]
    rcases j with _ | _ | _ | j
    · rfl
    · rfl
    · rfl
    · omega
  go_enter Tryd.func51, Tryd.ntmps51
  go_wp2_with fail
  refine (rotated_any _ x w.heap.size [2, 13, 22] hx (by decide) (by decide) Hc.out).mono ?_
  rintro e w' ⟨rfl, rfl⟩
  go_wp2
  go_ret
  exact ⟨rfl, (Below.refl _ _).alloc (Nat.le_refl _) _⟩
theorem big1_any (w : World) (x : Nat) (hx : x < 4294967296) :
    Calls Tryd.prog 49 #[.int .u32 x] w fun e w' => e = .returned (.int .u32 (big1N x : Nat)) ∧ Below w.heap.size w w' := by
  have Hc : Hid (∀ j, j < 3 → (w.alloc (.cells #[.int .u64 6, .int .u64 11, .int .u64 25] 82)).cell? ⟨w.heap.size, j, none⟩ = some (.int .u64 (([6, 11, 25] : List Nat).getD j 0 : Nat))) := fun j hj => by
    rw [(BlkIs.new w 82 #[.int .u64 6, .int .u64 11, .int .u64 25]).cell j]
    rcases j with _ | _ | _ | j
    · rfl
    · rfl
    · rfl
    · omega
  go_enter Tryd.func49, Tryd.ntmps49
  go_wp2_with fail
  refine (rotated_any _ x w.heap.size [6, 11, 25] hx (by decide) (by decide) Hc.out).mono ?_
  rintro e w' ⟨rfl, rfl⟩
  go_wp2
  go_ret
  exact ⟨rfl, (Below.refl _ _).alloc (Nat.le_refl _) _⟩
theorem small0_any (w : World) (x : Nat) (hx : x < 4294967296) :
    Calls Tryd.prog 56 #[.int .u32 x] w fun e w' => e = .returned (.int .u32 (small0N x : Nat)) ∧ Below w.heap.size w w' := by
  have Hc : Hid (∀ j, j < 2 → (w.alloc (.cells #[.int .u64 7, .int .u64 18] 82)).cell? ⟨w.heap.size, j, none⟩ = some (.int .u64 (([7, 18] : List Nat).getD j 0 : Nat))) := fun j hj => by
    rw [(BlkIs.new w 82 #[.int .u64 7, .int .u64 18]).cell j]
    rcases j with _ | _ | j
    · rfl
    · rfl
    · omega
  have hv : bits .xor .u32 ((rotN x [7, 18] : Nat) : Int) ((x : Int) / 8) = ((small0N x : Nat) : Int) := by
    rw [show (x : Int) / 8 = ((x / 8 : Nat) : Int) by omega, u32_xor_nat _ _ (rotN_lt x hx _) (by omega)]
    rfl
  have Hv := Lib.hid hv
  clear hv
  go_enter Tryd.func56, Tryd.ntmps56
  go_wp2_with fail
  refine (rotated_any _ x w.heap.size [7, 18] hx (by decide) (by decide) Hc.out).mono ?_
  rintro e w' ⟨rfl, rfl⟩
  go_wp2
  go_ret
  exact ⟨by rw [← Hv.out]; rfl, (Below.refl _ _).alloc (Nat.le_refl _) _⟩
theorem small1_any (w : World) (x : Nat) (hx : x < 4294967296) :
    Calls Tryd.prog 55 #[.int .u32 x] w fun e w' => e = .returned (.int .u32 (small1N x : Nat)) ∧ Below w.heap.size w w' := by
  have Hc : Hid (∀ j, j < 2 → (w.alloc (.cells #[.int .u64 17, .int .u64 19] 82)).cell? ⟨w.heap.size, j, none⟩ = some (.int .u64 (([17, 19] : List Nat).getD j 0 : Nat))) := fun j hj => by
    rw [(BlkIs.new w 82 #[.int .u64 17, .int .u64 19]).cell j]
    rcases j with _ | _ | j
    · rfl
    · rfl
    · omega
  have hv : bits .xor .u32 ((rotN x [17, 19] : Nat) : Int) ((x : Int) / 1024) = ((small1N x : Nat) : Int) := by
    rw [show (x : Int) / 1024 = ((x / 1024 : Nat) : Int) by omega, u32_xor_nat _ _ (rotN_lt x hx _) (by omega)]
    rfl
  have Hv := Lib.hid hv
  clear hv
  go_enter Tryd.func55, Tryd.ntmps55
  go_wp2_with fail
  refine (rotated_any _ x w.heap.size [17, 19] hx (by decide) (by decide) Hc.out).mono ?_
  rintro e w' ⟨rfl, rfl⟩
  go_wp2
  go_ret
  exact ⟨by rw [← Hv.out]; rfl, (Below.refl _ _).alloc (Nat.le_refl _) _⟩

def chooseN (x y z : Nat) : Nat := (x &&& y) ||| ((4294967295 ^^^ x) &&& z)
def mostN (x y z : Nat) : Nat := (x &&& y) ||| (x &&& z) ||| (y &&& z)
theorem and_lt (a b : Nat) (ha : a < 4294967296) : a &&& b < 4294967296 := Nat.lt_of_le_of_lt Nat.and_le_left ha
theorem or_lt (a b : Nat) (ha : a < 4294967296) (hb : b < 4294967296) : a ||| b < 4294967296 := Nat.or_lt_two_pow (n := 32) ha hb
theorem chooseN_lt (x y z : Nat) (hx : x < 4294967296) : chooseN x y z < 4294967296 := or_lt _ _ (and_lt _ _ hx) (and_lt _ _ (xor_lt _ _ (by omega) hx))
theorem mostN_lt (x y z : Nat) (hx : x < 4294967296) (hy : y < 4294967296) : mostN x y z < 4294967296 := or_lt _ _ (or_lt _ _ (and_lt _ _ hx) (and_lt _ _ hx)) (and_lt _ _ hy)
theorem choose_any (w : World) (x y z : Nat) (hx : x < 4294967296) (hy : y < 4294967296) (hz : z < 4294967296) :
    Calls Tryd.prog 50 #[.int .u32 x, .int .u32 y, .int .u32 z] w fun e w' => e = .returned (.int .u32 (chooseN x y z : Nat)) ∧ w = w' := by
  have hsg : IntKind.u32.signed = false := rfl
  have hv : bits .or .u32 (bits .and .u32 (x : Int) y) (bits .and .u32 (bits .xor .u32 IntKind.u32.max x) z) = ((chooseN x y z : Nat) : Int) := by
    rw [show IntKind.u32.max = ((4294967295 : Nat) : Int) from rfl, u32_xor_nat _ _ (by omega) hx, u32_and_nat _ _ hx hy, u32_and_nat _ _ (xor_lt _ _ (by omega) hx) hz, u32_or_nat _ _ (and_lt _ _ hx) (and_lt _ _ (xor_lt _ _ (by omega) hx))]
    rfl
  have Hv := Lib.hid hv
  clear hv
  go_enter Tryd.func50, Tryd.ntmps50
  go_wp2
  go_ret
  exact ⟨by rw [← Hv.out]; rfl, rfl⟩
theorem most_any (w : World) (x y z : Nat) (hx : x < 4294967296) (hy : y < 4294967296) (hz : z < 4294967296) :
    Calls Tryd.prog 52 #[.int .u32 x, .int .u32 y, .int .u32 z] w fun e w' => e = .returned (.int .u32 (mostN x y z : Nat)) ∧ w = w' := by
  have hv : bits .or .u32 (bits .or .u32 (bits .and .u32 (x : Int) y) (bits .and .u32 (x : Int) z)) (bits .and .u32 (y : Int) z) = ((mostN x y z : Nat) : Int) := by
    rw [u32_and_nat _ _ hx hy, u32_and_nat _ _ hx hz, u32_and_nat _ _ hy hz, u32_or_nat _ _ (and_lt _ _ hx) (and_lt _ _ hx), u32_or_nat _ _ (or_lt _ _ (and_lt _ _ hx) (and_lt _ _ hx)) (and_lt _ _ hy)]
    rfl
  have Hv := Lib.hid hv
  clear hv
  go_enter Tryd.func52, Tryd.ntmps52
  go_wp2
  go_ret
  exact ⟨by rw [← Hv.out]; rfl, rfl⟩
end Go.Proofs.YtpgjnmakpghamaaDoor

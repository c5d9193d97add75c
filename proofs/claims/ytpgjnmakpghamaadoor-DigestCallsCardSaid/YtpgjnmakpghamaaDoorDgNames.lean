/- Parse of a text of another length; DigestNames. -/
import Derived.Test.YtpgjnmakpghamaaDoorDgNil
import Derived.Laws.ResultCell
namespace Go.Proofs.YtpgjnmakpghamaaDoor
open Go.RowKit
set_option linter.unusedVariables false

theorem results_row_tmp {fn : Func} {p u : Tmp} {ty : TypeId} (h : fn.results = #[.cell p ty, .tmp u]) (tmps : Array Value) (w : World) (g : Nat) (cs : Array Value)
    (hp : tmps.getD p undef = .pointer (some ⟨g, 0, none⟩)) (hl : (loadVar ty ⟨g, 0, none⟩).run Tryd.prog w = .ok (.agg cs) w) :
    (results fn tmps).run Tryd.prog w = .ok (.tuple #[.agg cs, tmps.getD u undef]) w := by
  rw [results_cell_tmp h, hp]
  simp only [asAddr, Sem.run_pure, Result.andThen_ok, hl]
/-- No digest. -/
def noDigest : List Nat := List.replicate 32 0
theorem zerosN : u8s noDigest = #[.int .u8 0, .int .u8 0, .int .u8 0, .int .u8 0, .int .u8 0, .int .u8 0, .int .u8 0, .int .u8 0, .int .u8 0, .int .u8 0, .int .u8 0, .int .u8 0, .int .u8 0, .int .u8 0, .int .u8 0, .int .u8 0, .int .u8 0, .int .u8 0, .int .u8 0, .int .u8 0, .int .u8 0, .int .u8 0, .int .u8 0, .int .u8 0, .int .u8 0, .int .u8 0, .int .u8 0, .int .u8 0, .int .u8 0, .int .u8 0, .int .u8 0, .int .u8 0] := rfl
theorem noDigest_length : noDigest.length = 32 := rfl
theorem parse_short (w : World) (s : ByteArray) (hs : s.size ≠ 64) :
    Calls Tryd.prog 8 #[.string s] w fun e w' => e = .returned (.tuple #[.agg (u8s noDigest), .int .i64 2]) ∧ Below w.heap.size w w' := by
  have eb : (((s.size : Nat) : Int) != 64) = true := by simp; omega
  have hal : Below w.heap.size w ((w.alloc (.cells (u8s noDigest) 23)).alloc (.cells (u8s noDigest) 23)) := ((Below.refl _ _).alloc (Nat.le_refl _) _).alloc (by simp) _
  have hr := (BlkIs.new w 23 (u8s noDigest)).here ((Below.refl _ _).alloc (Nat.le_refl _) (.cells (u8s noDigest) 23))
  have Hal := Lib.hid hal
  have Hr := Lib.hid hr
  have hz32 : (u8s noDigest).size = 32 := by rw [u8s_size, noDigest_length]
  have Hz32 := Lib.hid hz32
  clear hal hr hz32 hs
  go_enter Tryd.func8, Tryd.ntmps8
  go_wp2_with (rw [← zerosN]; refine wp_store_blk rfl 23 (.tmp 2) (.tmp 11) rfl w.heap.size rfl (u8s noDigest) rfl Hr.out (by rw [info32, Hz32.out]) rfl (u8s_one _) ?_)
  refine bodyPost_ret (results_row_tmp rfl _ _ w.heap.size (u8s noDigest) rfl (run_loadVar_row _ w.heap.size 23 23 (u8s noDigest) (0, 0) _ (heap_setRow_same Hr.out _) Tryd.underlying23 rfl (by rw [info32, Hz32.out]))) rfl ?_
  exact ⟨rfl, Hal.out.grown (grown_setRow _ _ _) Hal.out.size (by intro q hq; injection hq with hq; omega)⟩
theorem H0_first : H0.getD 0 0 = 1779033703 := by rw [H0_eq]; rfl
theorem H0_get0 : (u32s H0)[0]? = some (.int .u32 1779033703) := by rw [u32s_get H0 0 (by rw [H0_length]; decide), H0_first]; rfl
theorem K0_get0 : (u32s K0)[0]? = some (.int .u32 1116352408) := by rw [u32s_get K0 0 (by rw [K0_length]; decide), K0_first]; rfl
theorem K0_get63 : (u32s K0)[63]? = some (.int .u32 3329325298) := by rw [u32s_get K0 63 (by rw [K0_length]; decide), K0_last]; rfl

theorem law_names (w : World) (hp : Primes w) : Calls Tryd.prog 3 #[] w (LivesPost w) := by
  have Hp := Lib.hid hp
  clear hp
  go_enter Tryd.func3, Tryd.ntmps3
  go_wp2_with fail
  refine (parse_short w ⟨#[101, 51, 98, 48]⟩ (by decide)).mono ?_
  rintro e w1 ⟨rfl, hb1⟩
  have B1 := Lib.hid hb1
  clear hb1
  have hnew := BlkIs.new w1 23 (u8s noDigest)
  have hz32 : (u8s noDigest).size = 32 := by rw [u8s_size, noDigest_length]
  have Hz32 := Lib.hid hz32
  have Hnew := Lib.hid hnew
  have hb2 : Below w1.heap.size w1 ((w1.alloc (.cells (u8s noDigest) 23)).setRow w1.heap.size (u8s noDigest)) :=
    ((Below.refl _ _).alloc (Nat.le_refl _) _).grown (grown_setRow _ _ _) (by simp) (by intro q hq; injection hq with hq; omega)
  have B2 := Lib.hid (Below.onR B1.out hb2)
  clear hnew hz32 hb2
  go_wp2_with (rw [← zerosN]; refine wp_store_blk rfl 23 (.tmp 1) (.tmp 5) rfl w1.heap.size rfl (u8s noDigest) rfl Hnew.out (by rw [info32, Hz32.out]) rfl (u8s_one _) ?_)
  generalize (w1.alloc (.cells (u8s noDigest) 23)).setRow w1.heap.size (u8s noDigest) = w2 at *
  refine (lives_any w2 (Hp.out.here B2.out)).mono ?_
  rintro e w3 ⟨rfl, hb3⟩
  have B3 := Lib.hid (Below.onR B2.out hb3)
  clear hb3
  go_wp2_with fail
  refine (begin_any w3 (Hp.out.here B3.out)).mono ?_
  rintro e w4 ⟨rfl, hb4⟩
  have B4 := Lib.hid (Below.onR B3.out hb4)
  clear hb4
  have hx1 : ∀ W : World, (Instr.index 29 (.agg (u32s H0)) (.int .i64 0)).run Tryd.prog W = .ok (.int .u32 1779033703) W := fun W =>
    run_index_arr W 29 28 8 .u32 Tryd.underlying29 Tryd.underlying28 (by kernel_rfl) (u32s H0) 0 _ (by decide) H0_get0
  go_wp2_with fail
  clear hx1
  refine (constants_any w4 (Hp.out.here B4.out)).mono ?_
  rintro e w5 ⟨rfl, hb5⟩
  have B5 := Lib.hid (Below.onR B4.out hb5)
  clear hb5
  have hx2 : ∀ W : World, (Instr.index 31 (.agg (u32s K0)) (.int .i64 0)).run Tryd.prog W = .ok (.int .u32 1116352408) W := fun W =>
    run_index_arr W 31 28 64 .u32 Tryd.underlying31 Tryd.underlying28 (by kernel_rfl) (u32s K0) 0 _ (by decide) K0_get0
  have hx3 : ∀ W : World, (Instr.index 31 (.agg (u32s K0)) (.int .i64 63)).run Tryd.prog W = .ok (.int .u32 3329325298) W := fun W =>
    run_index_arr W 31 28 64 .u32 Tryd.underlying31 Tryd.underlying28 (by kernel_rfl) (u32s K0) 63 _ (by decide) K0_get63
  go_wp2_with fail
  refine (constants_any w5 (Hp.out.here B5.out)).mono ?_
  rintro e w6 ⟨rfl, hb6⟩
  have B6 := Lib.hid (Below.onR B5.out hb6)
  clear hb6
  go_wp2_with fail
  refine (pad_any w6 0 (by decide)).mono ?_
  rintro e w7 ⟨A7, c7, rfl, -, hb7⟩
  have B7 := Lib.hid (Below.onR B6.out hb7)
  clear hb7
  rw [show zerosOf 0 = 55 from rfl]
  go_wp2
  go_ret
  exact ⟨rfl, B7.out⟩
end Go.Proofs.YtpgjnmakpghamaaDoor

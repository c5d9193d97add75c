/- begun; Pad. -/
import Derived.Test.YtpgjnmakpghamaaDoorDgAdd
namespace Go.Proofs.YtpgjnmakpghamaaDoor
open Go.RowKit
set_option linter.unusedVariables false

def msg0 : Msg := ⟨H0, List.replicate 64 0, 0⟩
theorem u32s_H0 : u32s H0 = #[.int .u32 1779033703, .int .u32 3144134277, .int .u32 1013904242, .int .u32 2773480762, .int .u32 1359893119, .int .u32 2600822924, .int .u32 528734635, .int .u32 1541459225] := by rw [H0_eq]; rfl
theorem msg0_lit : (msgL msg0 []).toArray = #[.int .u32 1779033703, .int .u32 3144134277, .int .u32 1013904242, .int .u32 2773480762, .int .u32 1359893119, .int .u32 2600822924, .int .u32 528734635, .int .u32 1541459225, .int .u8 0, .int .u8 0, .int .u8 0, .int .u8 0, .int .u8 0, .int .u8 0, .int .u8 0, .int .u8 0, .int .u8 0, .int .u8 0, .int .u8 0, .int .u8 0, .int .u8 0, .int .u8 0, .int .u8 0, .int .u8 0, .int .u8 0, .int .u8 0, .int .u8 0, .int .u8 0, .int .u8 0, .int .u8 0, .int .u8 0, .int .u8 0, .int .u8 0, .int .u8 0, .int .u8 0, .int .u8 0, .int .u8 0, .int .u8 0, .int .u8 0, .int .u8 0, .int .u8 0, .int .u8 0, .int .u8 0, .int .u8 0, .int .u8 0, .int .u8 0, .int .u8 0, .int .u8 0, .int .u8 0, .int .u8 0, .int .u8 0, .int .u8 0, .int .u8 0, .int .u8 0, .int .u8 0, .int .u8 0, .int .u8 0, .int .u8 0, .int .u8 0, .int .u8 0, .int .u8 0, .int .u8 0, .int .u8 0, .int .u8 0, .int .u8 0, .int .u8 0, .int .u8 0, .int .u8 0, .int .u8 0, .int .u8 0, .int .u8 0, .int .u8 0, .int .i64 0] := by unfold msgL msg0; rw [H0_eq]; rfl
theorem msg0_size : (msgL msg0 []).toArray.size = 73 := by rw [msg0_lit]; rfl
theorem msgL_one (m : Msg) (ex : List Value) (h : ∀ v ∈ ex, v.oneCell' = true) : (msgL m ex).toArray.all (·.oneCell') = true := all_oneCell_toArray fun v hv => by
  unfold msgL at hv
  simp only [List.mem_append, List.mem_map, List.mem_cons] at hv
  rcases hv with ⟨x, _, rfl⟩ | ⟨x, _, rfl⟩ | rfl | hv
  · rfl
  · rfl
  · rfl
  · exact h v hv
theorem msg0_one : (msgL msg0 []).toArray.all (·.oneCell') = true := msgL_one _ _ (fun _ h => by cases h)
theorem infoMsg : (Tryd.prog.info? 61).map (·.size) = some 73 := by kernel_rfl
theorem zeroMsg (w : World) : (zeroValue 61).run Tryd.prog w = .ok (.agg #[.int .u32 0, .int .u32 0, .int .u32 0, .int .u32 0, .int .u32 0, .int .u32 0, .int .u32 0, .int .u32 0, .int .u8 0, .int .u8 0, .int .u8 0, .int .u8 0, .int .u8 0, .int .u8 0, .int .u8 0, .int .u8 0, .int .u8 0, .int .u8 0, .int .u8 0, .int .u8 0, .int .u8 0, .int .u8 0, .int .u8 0, .int .u8 0, .int .u8 0, .int .u8 0, .int .u8 0, .int .u8 0, .int .u8 0, .int .u8 0, .int .u8 0, .int .u8 0, .int .u8 0, .int .u8 0, .int .u8 0, .int .u8 0, .int .u8 0, .int .u8 0, .int .u8 0, .int .u8 0, .int .u8 0, .int .u8 0, .int .u8 0, .int .u8 0, .int .u8 0, .int .u8 0, .int .u8 0, .int .u8 0, .int .u8 0, .int .u8 0, .int .u8 0, .int .u8 0, .int .u8 0, .int .u8 0, .int .u8 0, .int .u8 0, .int .u8 0, .int .u8 0, .int .u8 0, .int .u8 0, .int .u8 0, .int .u8 0, .int .u8 0, .int .u8 0, .int .u8 0, .int .u8 0, .int .u8 0, .int .u8 0, .int .u8 0, .int .u8 0, .int .u8 0, .int .u8 0, .int .i64 0]) w := by kernel_rfl
set_option maxRecDepth 100000 in
theorem begun_any (w : World) (hp : Primes w) :
    Calls Tryd.prog 35 #[] w fun e w' => e = .returned (.agg (msgL msg0 []).toArray) ∧ Below w.heap.size w w' := by
  have Hp := Lib.hid hp
  clear hp
  have hz := zeroMsg
  go_enter Tryd.func35, Tryd.ntmps35
  go_wp2_with fail
  have hal : Below w.heap.size w (w.alloc (.cells #[.int .u32 0, .int .u32 0, .int .u32 0, .int .u32 0, .int .u32 0, .int .u32 0, .int .u32 0, .int .u32 0, .int .u8 0, .int .u8 0, .int .u8 0, .int .u8 0, .int .u8 0, .int .u8 0, .int .u8 0, .int .u8 0, .int .u8 0, .int .u8 0, .int .u8 0, .int .u8 0, .int .u8 0, .int .u8 0, .int .u8 0, .int .u8 0, .int .u8 0, .int .u8 0, .int .u8 0, .int .u8 0, .int .u8 0, .int .u8 0, .int .u8 0, .int .u8 0, .int .u8 0, .int .u8 0, .int .u8 0, .int .u8 0, .int .u8 0, .int .u8 0, .int .u8 0, .int .u8 0, .int .u8 0, .int .u8 0, .int .u8 0, .int .u8 0, .int .u8 0, .int .u8 0, .int .u8 0, .int .u8 0, .int .u8 0, .int .u8 0, .int .u8 0, .int .u8 0, .int .u8 0, .int .u8 0, .int .u8 0, .int .u8 0, .int .u8 0, .int .u8 0, .int .u8 0, .int .u8 0, .int .u8 0, .int .u8 0, .int .u8 0, .int .u8 0, .int .u8 0, .int .u8 0, .int .u8 0, .int .u8 0, .int .u8 0, .int .u8 0, .int .u8 0, .int .u8 0, .int .i64 0] 61)) := (Below.refl _ _).alloc (Nat.le_refl _) _
  have hb0 := BlkIs.new w 61 #[.int .u32 0, .int .u32 0, .int .u32 0, .int .u32 0, .int .u32 0, .int .u32 0, .int .u32 0, .int .u32 0, .int .u8 0, .int .u8 0, .int .u8 0, .int .u8 0, .int .u8 0, .int .u8 0, .int .u8 0, .int .u8 0, .int .u8 0, .int .u8 0, .int .u8 0, .int .u8 0, .int .u8 0, .int .u8 0, .int .u8 0, .int .u8 0, .int .u8 0, .int .u8 0, .int .u8 0, .int .u8 0, .int .u8 0, .int .u8 0, .int .u8 0, .int .u8 0, .int .u8 0, .int .u8 0, .int .u8 0, .int .u8 0, .int .u8 0, .int .u8 0, .int .u8 0, .int .u8 0, .int .u8 0, .int .u8 0, .int .u8 0, .int .u8 0, .int .u8 0, .int .u8 0, .int .u8 0, .int .u8 0, .int .u8 0, .int .u8 0, .int .u8 0, .int .u8 0, .int .u8 0, .int .u8 0, .int .u8 0, .int .u8 0, .int .u8 0, .int .u8 0, .int .u8 0, .int .u8 0, .int .u8 0, .int .u8 0, .int .u8 0, .int .u8 0, .int .u8 0, .int .u8 0, .int .u8 0, .int .u8 0, .int .u8 0, .int .u8 0, .int .u8 0, .int .u8 0, .int .i64 0]
  have Hb0 := Lib.hid hb0
  have Hal := Lib.hid hal
  clear hb0 hal
  refine (begin_any _ (Hp.out.here Hal.out)).mono ?_
  rintro e w2 ⟨rfl, hb2⟩
  rw [u32s_H0]
  have Hb2 := Lib.hid (Hb0.out.here hb2)
  have Hb3 := Lib.hid (Below.onR Hal.out hb2)
  clear hb2 Hb0 Hal
  go_wp2_with (rw [← msg0_lit]; refine wp_store_blk rfl 61 (.tmp 0) (.tmp 2) rfl w.heap.size rfl (msgL msg0 []).toArray rfl Hb2.out (by rw [infoMsg, msg0_size]) (by rw [msg0_size]; rfl) msg0_one ?_)
  refine bodyPost_ret (results_cell_row rfl _ _ w.heap.size 61 (msgL msg0 []).toArray (0, 0) _ rfl (heap_setRow_same Hb2.out _) Tryd.underlying61 rfl (by rw [infoMsg, msg0_size])) rfl ?_
  exact ⟨rfl, Hb3.out.grown (grown_setRow _ _ _) Hb3.out.size (by intro k hk; injection hk with hk; omega)⟩
end Go.Proofs.YtpgjnmakpghamaaDoor

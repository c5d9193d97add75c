/- The walk of the chapter's examples, which each statement of the layer asks first. -/
import Derived.Test.YtpgjnmakpghamaaFrame
import Derived.Lib.SlBytesConst
namespace Go.Proofs.Ytpgjnmakpghamaa
open Go.RowKit
set_option linter.unusedVariables false

theorem frame_a : unfrV (unfr (frame [97] ++ [120])) = .tuple #[.string ⟨#[97]⟩, .int .i64 9, .int .i64 0] := by
  have h : unfr (frame [97] ++ [120]) = ([97], 9, 0) := by decide +kernel
  rw [h]
  rfl
theorem unfr_000 : unfrV (unfr [0, 0, 0]) = .tuple #[.string ⟨#[]⟩, .int .i64 0, .int .i64 5] := by
  have h : unfr [0, 0, 0] = ([], 0, 5) := by decide +kernel
  rw [h]
  rfl
theorem enc_300 : enc 300 = [130, 44] := by decide +kernel
theorem chk_abc : chk [97, 98, 99] = 38600999 := by decide +kernel

theorem Byt.litm (w : World) (cs : Array Value) (fr : Nat × Nat) (t : TypeId) (l : List UInt8) (h : cs.toList = bvs l) (hm : l.length ≤ maxLen) : Byt (w.alloc (.cells cs t fr)) (w.heap.size + 1) (some ⟨w.heap.size, 0, none⟩) l.length l.length l :=
  ⟨rfl, Nat.le_refl _, hm, fun _ => ⟨_, 0, rfl, by omega, fun j hj => by
    rw [World.cell?_alloc_mark, Nat.zero_add, ← bvs_get l j hj, ← h]
    simp⟩⟩
theorem frame97 : (frame [97]).length = 9 := by decide +kernel
/-- The program's own examples: true, and nothing that was there has changed. -/
def LivesPost (w : World) (e : Ending) (w' : World) : Prop := e = .returned (.bool true) ∧ Below w.heap.size w w'
set_option maxHeartbeats 1600000 in
theorem lives_any (w : World) : Calls Try.prog 11 #[] w (LivesPost w) := by
  have kc := fun (w : World) (C : Array Value) (n c : Nat) => Lib.run_convert_bytes_const (P := Try.prog) w 24 5 C n c Try.underlying24 Try.underlying5
  go_enter Try.func11, Try.ntmps11
  go_wp2_with fail
  refine (frame_any w ⟨#[97]⟩ (by decide)).mono ?_
  rintro e w1 ⟨A1, n1, c1, rfl, hown1, hb1⟩
  have hsz1 := hb1.size
  have hn1 : n1 = 9 := by rw [← hown1.len]; exact frame97
  subst hn1
  have hl1 := Byt.lit w1 #[.int .u8 120] [120] (by simp [bvs]) (by decide)
  go_wp2_with (at_builtin; refine wpList_byte_append rfl (.tmp 14) (.tmp 15) rfl w.heap.size A1 9 c1 _ rfl (hown1.alloc _) (w1.heap.size + 1) _ 1 1 [120] rfl hl1 (by omega) (by simp; omega) ?_; intro A2 c2 w2 hown2 hgr2 hat2)
  have hlo := own_lo hown1 hat2 (by simp; omega)
  have hb2 : Below w.heap.size w w2 := (hb1.alloc hsz1 _).grown hgr2 (by simp; omega) fun k hk => (World.ownsRow.lt hown1 k hk).1
  have hsz2 := hb2.size
  clear hgr2 hat2 hlo hl1
  refine (unframe_any w2 w2.heap.size A2 10 c2 (frame [97] ++ [120]) hown2.byt (Nat.le_refl _) (by omega)).mono ?_
  rintro e w3 ⟨rfl, hb3⟩
  rw [frame_a]
  have hsz3 := hb3.size
  have hl3 := Byt.lit w3 #[.int .u8 0, .int .u8 0, .int .u8 0] [0, 0, 0] (by simp [bvs]) (by decide)
  go_wp2_with fail
  refine (unframe_any _ (w3.heap.size + 1) _ 3 3 [0, 0, 0] hl3 (by simp) (by omega)).mono ?_
  rintro e w4 ⟨rfl, hb4⟩
  rw [unfr_000]
  have hsz4 := hb4.size
  simp only [World.size_alloc] at hsz4
  go_wp2_with fail
  refine (number_any w4 w4.heap.size none 0 0 [] 300 (Byt.none_ _ _) (Nat.le_refl _) (by omega) (by omega)).mono ?_
  rintro e w5 ⟨A5, n5, c5, rfl, hown5, hb5⟩
  have hsz5 := hb5.size
  rw [enc_300] at hown5
  have hs5 := run_string_of_bytes hown5.byt
  go_wp2_with fail
  have hl6 := Byt.litm w5 #[.int .u8 97, .int .u8 98, .int .u8 99] (3, 4) 5 [97, 98, 99] (by simp [bvs]) (by decide)
  refine (sum_at _ (w5.heap.size + 1) _ 3 3 [97, 98, 99] hl6 (by simp) (by omega)).mono ?_
  rintro e w7 ⟨rfl, hb7⟩
  rw [chk_abc]
  have hsz7 := hb7.size
  simp only [World.size_alloc] at hsz7
  clear hl3 hl6 hown5 hown1 hown2 hs5
  go_wp2_with fail
  go_ret
  refine ⟨rfl, ?_⟩
  have a3 := (Below.step hb2 hb3 hsz2).alloc (by omega) (.cells #[.int .u8 0, .int .u8 0, .int .u8 0] 5)
  have a5 := Below.step (Below.step a3 hb4 (by simp; omega)) hb5 (by omega)
  exact Below.step (a5.alloc (by omega) _) hb7 (by simp; omega)
end Go.Proofs.Ytpgjnmakpghamaa

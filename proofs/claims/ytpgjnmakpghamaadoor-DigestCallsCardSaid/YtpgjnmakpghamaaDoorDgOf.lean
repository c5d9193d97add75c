/- Of; the examples. -/
import Derived.Test.YtpgjnmakpghamaaDoorDgSum
namespace Go.Proofs.YtpgjnmakpghamaaDoor
open Go.RowKit
set_option linter.unusedVariables false

theorem absorb_n (m : Msg) (c : Nat) : (absorb m c).n = m.n + 1 := by unfold absorb; split <;> rfl
theorem absorbs_n : ∀ (l : List Nat) (m : Msg), (absorbs m l).n = m.n + l.length
  | [], _ => rfl
  | c :: r, m => by
    show (absorbs (absorb m c) r).n = _
    rw [absorbs_n r, absorb_n, List.length_cons]
    omega
theorem H0_words : Words H0 := fun i => by
  by_cases h : i < 8
  · rw [H0_at i h]
    exact Nat.mod_lt _ (by omega)
  · rw [List.getD, List.getElem?_eq_none (by rw [H0_length]; omega)]
    decide
theorem msg0_ok : MsgOk msg0 := ⟨H0_length, by simp [msg0], H0_words, fun i => by
  show (List.replicate 64 0).getD i 0 < 256
  rw [List.getD, List.getElem?_replicate]
  split <;> decide⟩
/-- The digest of bytes. -/
def ofN (l : List UInt8) : List Nat := digestN (absorbs msg0 (nums l))
theorem msgL_size (m : Msg) (ex : List Value) (h : MsgOk m) : (msgL m ex).toArray.size = 73 + ex.length := by simp [msgL, h.hs, h.hr]; omega

set_option maxRecDepth 100000 in
set_option maxHeartbeats 1000000 in
theorem of_any (w : World) (hp : Primes w) (B n c : Nat) (A : Option Addr) (l : List UInt8) (hb : Byt w B A n c l) (hB : B ≤ w.heap.size) (hn : n ≤ 1099511627776) :
    Calls Tryd.prog 14 #[.slice A n c] w fun e w' => e = .returned (.agg (u8s (ofN l))) ∧ Below w.heap.size w w' := by
  have Hp := Lib.hid hp
  have Hb := Lib.hid (hb.more hB)
  clear hp hb
  go_enter Tryd.func14, Tryd.ntmps14
  have hz := zeroMsg
  go_wp2_with fail
  rw [← zeros32]
  have hal : Below w.heap.size w (w.alloc (.cells (u8s (List.replicate 32 0)) 23)) := (Below.refl _ _).alloc (Nat.le_refl _) _
  have hr := BlkIs.new w 23 (u8s (List.replicate 32 0))
  have Hal := Lib.hid hal
  have Hr := Lib.hid hr
  clear hal hr
  refine (begun_any _ (Hp.out.here Hal.out)).mono ?_
  rintro e w1 ⟨rfl, hb1⟩
  have B1 := Lib.hid (Below.onR Hal.out hb1)
  have R1 := Lib.hid (Hr.out.here hb1)
  clear hb1
  go_wp2_with fail
  refine (constants_any w1 (Hp.out.here B1.out)).mono ?_
  rintro e w2 ⟨rfl, hb2⟩
  have B2 := Lib.hid (Below.onR B1.out hb2)
  have R2 := Lib.hid (R1.out.here hb2)
  clear hb2
  obtain ⟨b, hb⟩ : ∃ b, w2.heap.size = b := ⟨_, rfl⟩
  have hbw : w.heap.size < b := by rw [← hb]; exact R2.out.lt
  obtain ⟨W3, hW3⟩ : ∃ W, (w2.alloc (.cells #[.int .u32 0, .int .u32 0, .int .u32 0, .int .u32 0, .int .u32 0, .int .u32 0, .int .u32 0, .int .u32 0, .int .u8 0, .int .u8 0, .int .u8 0, .int .u8 0, .int .u8 0, .int .u8 0, .int .u8 0, .int .u8 0, .int .u8 0, .int .u8 0, .int .u8 0, .int .u8 0, .int .u8 0, .int .u8 0, .int .u8 0, .int .u8 0, .int .u8 0, .int .u8 0, .int .u8 0, .int .u8 0, .int .u8 0, .int .u8 0, .int .u8 0, .int .u8 0, .int .u8 0, .int .u8 0, .int .u8 0, .int .u8 0, .int .u8 0, .int .u8 0, .int .u8 0, .int .u8 0, .int .u8 0, .int .u8 0, .int .u8 0, .int .u8 0, .int .u8 0, .int .u8 0, .int .u8 0, .int .u8 0, .int .u8 0, .int .u8 0, .int .u8 0, .int .u8 0, .int .u8 0, .int .u8 0, .int .u8 0, .int .u8 0, .int .u8 0, .int .u8 0, .int .u8 0, .int .u8 0, .int .u8 0, .int .u8 0, .int .u8 0, .int .u8 0, .int .u8 0, .int .u8 0, .int .u8 0, .int .u8 0, .int .u8 0, .int .u8 0, .int .u8 0, .int .u8 0, .int .i64 0] 61)).alloc (.cells #[.int .u32 0, .int .u32 0, .int .u32 0, .int .u32 0, .int .u32 0, .int .u32 0, .int .u32 0, .int .u32 0, .int .u32 0, .int .u32 0, .int .u32 0, .int .u32 0, .int .u32 0, .int .u32 0, .int .u32 0, .int .u32 0, .int .u32 0, .int .u32 0, .int .u32 0, .int .u32 0, .int .u32 0, .int .u32 0, .int .u32 0, .int .u32 0, .int .u32 0, .int .u32 0, .int .u32 0, .int .u32 0, .int .u32 0, .int .u32 0, .int .u32 0, .int .u32 0, .int .u32 0, .int .u32 0, .int .u32 0, .int .u32 0, .int .u32 0, .int .u32 0, .int .u32 0, .int .u32 0, .int .u32 0, .int .u32 0, .int .u32 0, .int .u32 0, .int .u32 0, .int .u32 0, .int .u32 0, .int .u32 0, .int .u32 0, .int .u32 0, .int .u32 0, .int .u32 0, .int .u32 0, .int .u32 0, .int .u32 0, .int .u32 0, .int .u32 0, .int .u32 0, .int .u32 0, .int .u32 0, .int .u32 0, .int .u32 0, .int .u32 0, .int .u32 0] 31) = W := ⟨_, rfl⟩
  have hal3 : Below w2.heap.size w2 W3 := by rw [← hW3]; exact ((Below.refl _ _).alloc (Nat.le_refl _) _).alloc (by simp) _
  have h61 : BlkIs W3 b 61 #[.int .u32 0, .int .u32 0, .int .u32 0, .int .u32 0, .int .u32 0, .int .u32 0, .int .u32 0, .int .u32 0, .int .u8 0, .int .u8 0, .int .u8 0, .int .u8 0, .int .u8 0, .int .u8 0, .int .u8 0, .int .u8 0, .int .u8 0, .int .u8 0, .int .u8 0, .int .u8 0, .int .u8 0, .int .u8 0, .int .u8 0, .int .u8 0, .int .u8 0, .int .u8 0, .int .u8 0, .int .u8 0, .int .u8 0, .int .u8 0, .int .u8 0, .int .u8 0, .int .u8 0, .int .u8 0, .int .u8 0, .int .u8 0, .int .u8 0, .int .u8 0, .int .u8 0, .int .u8 0, .int .u8 0, .int .u8 0, .int .u8 0, .int .u8 0, .int .u8 0, .int .u8 0, .int .u8 0, .int .u8 0, .int .u8 0, .int .u8 0, .int .u8 0, .int .u8 0, .int .u8 0, .int .u8 0, .int .u8 0, .int .u8 0, .int .u8 0, .int .u8 0, .int .u8 0, .int .u8 0, .int .u8 0, .int .u8 0, .int .u8 0, .int .u8 0, .int .u8 0, .int .u8 0, .int .u8 0, .int .u8 0, .int .u8 0, .int .u8 0, .int .u8 0, .int .u8 0, .int .i64 0] := by rw [← hW3, ← hb]; exact (BlkIs.new w2 _ _).here ((Below.refl _ _).alloc (Nat.le_refl _) _)
  have h31 : BlkIs W3 (b + 1) 31 #[.int .u32 0, .int .u32 0, .int .u32 0, .int .u32 0, .int .u32 0, .int .u32 0, .int .u32 0, .int .u32 0, .int .u32 0, .int .u32 0, .int .u32 0, .int .u32 0, .int .u32 0, .int .u32 0, .int .u32 0, .int .u32 0, .int .u32 0, .int .u32 0, .int .u32 0, .int .u32 0, .int .u32 0, .int .u32 0, .int .u32 0, .int .u32 0, .int .u32 0, .int .u32 0, .int .u32 0, .int .u32 0, .int .u32 0, .int .u32 0, .int .u32 0, .int .u32 0, .int .u32 0, .int .u32 0, .int .u32 0, .int .u32 0, .int .u32 0, .int .u32 0, .int .u32 0, .int .u32 0, .int .u32 0, .int .u32 0, .int .u32 0, .int .u32 0, .int .u32 0, .int .u32 0, .int .u32 0, .int .u32 0, .int .u32 0, .int .u32 0, .int .u32 0, .int .u32 0, .int .u32 0, .int .u32 0, .int .u32 0, .int .u32 0, .int .u32 0, .int .u32 0, .int .u32 0, .int .u32 0, .int .u32 0, .int .u32 0, .int .u32 0, .int .u32 0] := by rw [← hW3, ← hb]; simpa using BlkIs.new (w2.alloc (.cells #[.int .u32 0, .int .u32 0, .int .u32 0, .int .u32 0, .int .u32 0, .int .u32 0, .int .u32 0, .int .u32 0, .int .u8 0, .int .u8 0, .int .u8 0, .int .u8 0, .int .u8 0, .int .u8 0, .int .u8 0, .int .u8 0, .int .u8 0, .int .u8 0, .int .u8 0, .int .u8 0, .int .u8 0, .int .u8 0, .int .u8 0, .int .u8 0, .int .u8 0, .int .u8 0, .int .u8 0, .int .u8 0, .int .u8 0, .int .u8 0, .int .u8 0, .int .u8 0, .int .u8 0, .int .u8 0, .int .u8 0, .int .u8 0, .int .u8 0, .int .u8 0, .int .u8 0, .int .u8 0, .int .u8 0, .int .u8 0, .int .u8 0, .int .u8 0, .int .u8 0, .int .u8 0, .int .u8 0, .int .u8 0, .int .u8 0, .int .u8 0, .int .u8 0, .int .u8 0, .int .u8 0, .int .u8 0, .int .u8 0, .int .u8 0, .int .u8 0, .int .u8 0, .int .u8 0, .int .u8 0, .int .u8 0, .int .u8 0, .int .u8 0, .int .u8 0, .int .u8 0, .int .u8 0, .int .u8 0, .int .u8 0, .int .u8 0, .int .u8 0, .int .u8 0, .int .u8 0, .int .i64 0] 61)) 31 #[.int .u32 0, .int .u32 0, .int .u32 0, .int .u32 0, .int .u32 0, .int .u32 0, .int .u32 0, .int .u32 0, .int .u32 0, .int .u32 0, .int .u32 0, .int .u32 0, .int .u32 0, .int .u32 0, .int .u32 0, .int .u32 0, .int .u32 0, .int .u32 0, .int .u32 0, .int .u32 0, .int .u32 0, .int .u32 0, .int .u32 0, .int .u32 0, .int .u32 0, .int .u32 0, .int .u32 0, .int .u32 0, .int .u32 0, .int .u32 0, .int .u32 0, .int .u32 0, .int .u32 0, .int .u32 0, .int .u32 0, .int .u32 0, .int .u32 0, .int .u32 0, .int .u32 0, .int .u32 0, .int .u32 0, .int .u32 0, .int .u32 0, .int .u32 0, .int .u32 0, .int .u32 0, .int .u32 0, .int .u32 0, .int .u32 0, .int .u32 0, .int .u32 0, .int .u32 0, .int .u32 0, .int .u32 0, .int .u32 0, .int .u32 0, .int .u32 0, .int .u32 0, .int .u32 0, .int .u32 0, .int .u32 0, .int .u32 0, .int .u32 0, .int .u32 0]
  have g4 := grown_setRow W3 b (msgL msg0 []).toArray
  have h61' := heap_setRow_same h61 (msgL msg0 []).toArray
  have h31' := h31.grown g4 (by simp)
  have g5 := grown_setRow (W3.setRow b (msgL msg0 []).toArray) (b + 1) (u32s K0)
  have m5 : MsgAt ((W3.setRow b (msgL msg0 []).toArray).setRow (b + 1) (u32s K0)) b 61 [] msg0 := ⟨h61'.grown g5 (by simp), msg0_ok.hs, msg0_ok.hr, msg0_ok.sw, msg0_ok.rb⟩
  have k5 := heap_setRow_same h31' (u32s K0)
  have r5 := ((R2.out.here hal3).grown g4 (by simp; omega)).grown g5 (by simp; omega)
  have b3 := Below.onR B2.out hal3
  have b5 := (b3.grown g4 b3.size (by intro q hq; injection hq with hq; omega)).grown g5 (b3.grown g4 b3.size (by intro q hq; injection hq with hq; omega)).size (by intro q hq; injection hq with hq; omega)
  have H61 := Lib.hid h61
  have H31' := Lib.hid h31'
  have M5 := Lib.hid m5
  have K5 := Lib.hid k5
  have R5 := Lib.hid r5
  have B5 := Lib.hid b5
  have hk64 : (u32s K0).size = 64 := by rw [u32s_size, K0_length]
  have Hk64 := Lib.hid hk64
  clear hal3 h61 h31 g4 h61' h31' g5 m5 k5 r5 b3 b5 B1 R1 B2 R2 Hal Hr hk64
  go_upto_region 2 with (first
    | ((try rw [hW3]); (try rw [hb]); refine wp_store_blk rfl 61 (.tmp 3) (.tmp 5) rfl b rfl (msgL msg0 []).toArray rfl H61.out (by rw [infoMsg, msg0_size]) (by rw [msg0_size]; rfl) msg0_one ?_)
    | (refine wp_store_blk rfl 31 (.tmp 4) (.tmp 6) rfl (b + 1) rfl (u32s K0) rfl H31'.out (by rw [info64, Hk64.out]) (by rw [Hk64.out]; rfl) (u32s_one _) ?_))
  clear hW3 hb H61 H31'
  generalize (W3.setRow b (msgL msg0 []).toArray).setRow (b + 1) (u32s K0) = W5 at *
  have Hsrc : Hid (Src W5 b A n c l) := ⟨(Hb.out.same B5.out).more B5.out.size, fun h0 b' o s e => by
    obtain ⟨b2, o2, e1, e2, _⟩ := Hb.out.lies h0
    rw [e1] at e
    injection e with e
    injection e with e3 e4 e5
    omega⟩
  simp only [Act.put]
  go_wp2_with (refine wpList_load_row rfl 31 (.tmp 4) rfl (b + 1) rfl 31 (u32s K0) (0, 0) _ K5.out Tryd.underlying31 rfl (by rw [info64, Hk64.out]) ?_)
  refine (add_any W5 b 61 [] msg0 M5.out n c A l Hsrc.out (by show 0 + n ≤ _; omega)).mono ?_
  rintro e w6 ⟨rfl, hm6, hg6⟩
  obtain ⟨m, hm⟩ : ∃ m, absorbs msg0 (nums l) = m := ⟨_, rfl⟩
  have hok : MsgOk m := by rw [← hm]; exact absorbs_ok _ _ (nums_bytes l) msg0_ok
  have hmn : m.n ≤ 1152921504606846976 := by
    rw [← hm, absorbs_n, nums_length, Hb.out.len]
    show 0 + n ≤ _
    omega
  have hof : ofN l = digestN m := by rw [ofN, hm]
  rw [hm] at hm6
  have M6 := Lib.hid hm6
  have K6 := Lib.hid (K5.out.grown hg6 (by simp))
  have R6 := Lib.hid (R5.out.grown hg6 (by simp; omega))
  have B6 := Lib.hid (B5.out.grown hg6 B5.out.size (by intro q hq; injection hq with hq; omega))
  have Hof := Lib.hid hof
  have Hsz : Hid ((msgL m []).toArray.size = 73) := by unfold Hid; rw [msgL_size m [] hok]; rfl
  have Hdg := Lib.hid (digest_any w6 m hok hmn)
  have hd32 : (u8s (digestN m)).size = 32 := by rw [u8s_size, digestN, dgN_length]
  have Hd32 := Lib.hid hd32
  have hz32 : (u8s (List.replicate 32 0)).size = 32 := by rw [u8s_size]; simp
  have Hz32 := Lib.hid hz32
  clear hm hm6 hg6 hok hof M5 K5 R5 B5 Hsrc hd32 hz32
  go_wp2_with (first
    | (refine wpList_load_row rfl 61 (.tmp 3) rfl b rfl 61 (msgL m []).toArray (0, 0) _ M6.out.blk Tryd.underlying61 rfl (by rw [infoMsg, Hsz.out]) ?_)
    | (refine wpList_load_row rfl 31 (.tmp 4) rfl (b + 1) rfl 31 (u32s K0) (0, 0) _ K6.out Tryd.underlying31 rfl (by rw [info64, Hk64.out]) ?_))
  refine Hdg.out.mono ?_
  rintro e w7 ⟨rfl, hb7⟩
  have R7 := Lib.hid (R6.out.here hb7)
  have B7 := Lib.hid (Below.onR B6.out hb7)
  clear hb7 R6 B6 K6 M6
  go_wp2_with (refine wp_store_blk rfl 23 (.tmp 2) (.tmp 12) rfl w.heap.size rfl (u8s (digestN m)) rfl R7.out (by rw [info32, Hd32.out]) (by rw [Hz32.out, Hd32.out]) (u8s_one _) ?_)
  refine bodyPost_ret (results_cell_row rfl _ _ w.heap.size 23 (u8s (digestN m)) (0, 0) _ rfl (heap_setRow_same R7.out _) Tryd.underlying23 rfl (by rw [info32, Hd32.out])) rfl ?_
  exact ⟨by rw [Hof.out], B7.out.grown (grown_setRow _ _ _) B7.out.size (by intro q hq; injection hq with hq; omega)⟩
end Go.Proofs.YtpgjnmakpghamaaDoor

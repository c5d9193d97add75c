/- The methods of a hash. -/
import Derived.Test.YtpgjnmakpghamaaDoorDgNames
namespace Go.Proofs.YtpgjnmakpghamaaDoor
open Go.RowKit
set_option linter.unusedVariables false

/-- What stands behind the message in a hash that New made. -/
def made : List Value := [.bool true]
theorem hash0_lit : (msgL msg0 made).toArray = #[.int .u32 1779033703, .int .u32 3144134277, .int .u32 1013904242, .int .u32 2773480762, .int .u32 1359893119, .int .u32 2600822924, .int .u32 528734635, .int .u32 1541459225, .int .u8 0, .int .u8 0, .int .u8 0, .int .u8 0, .int .u8 0, .int .u8 0, .int .u8 0, .int .u8 0, .int .u8 0, .int .u8 0, .int .u8 0, .int .u8 0, .int .u8 0, .int .u8 0, .int .u8 0, .int .u8 0, .int .u8 0, .int .u8 0, .int .u8 0, .int .u8 0, .int .u8 0, .int .u8 0, .int .u8 0, .int .u8 0, .int .u8 0, .int .u8 0, .int .u8 0, .int .u8 0, .int .u8 0, .int .u8 0, .int .u8 0, .int .u8 0, .int .u8 0, .int .u8 0, .int .u8 0, .int .u8 0, .int .u8 0, .int .u8 0, .int .u8 0, .int .u8 0, .int .u8 0, .int .u8 0, .int .u8 0, .int .u8 0, .int .u8 0, .int .u8 0, .int .u8 0, .int .u8 0, .int .u8 0, .int .u8 0, .int .u8 0, .int .u8 0, .int .u8 0, .int .u8 0, .int .u8 0, .int .u8 0, .int .u8 0, .int .u8 0, .int .u8 0, .int .u8 0, .int .u8 0, .int .u8 0, .int .u8 0, .int .u8 0, .int .i64 0, .bool true] := by unfold msgL msg0 made; rw [H0_eq]; rfl
theorem zeroHash (w : World) : (zeroValue 71).run Tryd.prog w = .ok (.agg #[.int .u32 0, .int .u32 0, .int .u32 0, .int .u32 0, .int .u32 0, .int .u32 0, .int .u32 0, .int .u32 0, .int .u8 0, .int .u8 0, .int .u8 0, .int .u8 0, .int .u8 0, .int .u8 0, .int .u8 0, .int .u8 0, .int .u8 0, .int .u8 0, .int .u8 0, .int .u8 0, .int .u8 0, .int .u8 0, .int .u8 0, .int .u8 0, .int .u8 0, .int .u8 0, .int .u8 0, .int .u8 0, .int .u8 0, .int .u8 0, .int .u8 0, .int .u8 0, .int .u8 0, .int .u8 0, .int .u8 0, .int .u8 0, .int .u8 0, .int .u8 0, .int .u8 0, .int .u8 0, .int .u8 0, .int .u8 0, .int .u8 0, .int .u8 0, .int .u8 0, .int .u8 0, .int .u8 0, .int .u8 0, .int .u8 0, .int .u8 0, .int .u8 0, .int .u8 0, .int .u8 0, .int .u8 0, .int .u8 0, .int .u8 0, .int .u8 0, .int .u8 0, .int .u8 0, .int .u8 0, .int .u8 0, .int .u8 0, .int .u8 0, .int .u8 0, .int .u8 0, .int .u8 0, .int .u8 0, .int .u8 0, .int .u8 0, .int .u8 0, .int .u8 0, .int .u8 0, .int .i64 0, .bool false]) w := by kernel_rfl
theorem MsgAt.made_ {w : World} {g : Nat} {t : TypeId} {m : Msg} (h : MsgAt w g t made m) : w.cell? ⟨g, 73, none⟩ = some (.bool true) := by
  rw [h.blk.cell, List.getElem?_toArray, msgL, List.getElem?_append_right (by simp [h.hs]), List.getElem?_append_right (by simp [h.hs, h.hr])]
  simp [h.hs, h.hr, made]
theorem MsgAt.ok {w : World} {g : Nat} {t : TypeId} {ex : List Value} {m : Msg} (h : MsgAt w g t ex m) : MsgOk m := ⟨h.hs, h.hr, h.sw, h.rb⟩
theorem MsgAt.range_msg {w : World} {g : Nat} {t : TypeId} {ex : List Value} {m : Msg} (h : MsgAt w g t ex m) : w.rangeAt g 0 (msgL m []) := fun j v hv => by
  rw [Nat.zero_add, h.blk.cell, List.getElem?_toArray]
  have e : msgL m ex = msgL m [] ++ ex := by simp [msgL]
  rw [e, List.getElem?_append_left (List.getElem?_eq_some_iff.1 hv).1]
  exact hv
theorem Primes.grown {w w' : World} (h : Primes w) {g : Nat} (hg : w.grownBy w' (some g)) (h0 : g ≠ 0) : Primes w' := by
  have hp := h.pos
  obtain ⟨t, fr, h⟩ := h
  exact ⟨t, fr, (hg.block 0 hp (by simpa using Ne.symm h0)).trans h⟩

theorem new_any (w : World) (hp : Primes w) : Calls Tryd.prog 27 #[] w fun e w' => ∃ g, e = .returned (.pointer (some ⟨g, 0, none⟩)) ∧ MsgAt w' g 71 made msg0 ∧ w.heap.size ≤ g ∧ Below w.heap.size w w' := by
  have Hp := Lib.hid hp
  have hz := zeroHash
  clear hp
  go_enter Tryd.func27, Tryd.ntmps27
  go_wp2_with fail
  refine (begun_any w Hp.out).mono ?_
  rintro e w1 ⟨rfl, hb1⟩
  rw [msg0_lit]
  go_wp2
  go_ret
  rw [← hash0_lit]
  exact ⟨w1.heap.size, rfl, ⟨BlkIs.new w1 _ _, msg0_ok.hs, msg0_ok.hr, msg0_ok.sw, msg0_ok.rb⟩, hb1.size, hb1.alloc hb1.size _⟩

theorem valid_any (w : World) (g : Nat) (m : Msg) (h : MsgAt w g 71 made m) : Calls Tryd.prog 42 #[.pointer (some ⟨g, 0, none⟩)] w fun e w' => e = .returned (.bool true) ∧ w = w' := by
  have h73 := h.made_
  clear h
  go_enter Tryd.func42, Tryd.ntmps42
  go_wp2
  go_ret
  exact ⟨rfl, rfl⟩
theorem size_any (w : World) (g : Nat) (m : Msg) (h : MsgAt w g 71 made m) : Calls Tryd.prog 26 #[.pointer (some ⟨g, 0, none⟩)] w fun e w' => e = .returned (.int .i64 (m.n : Int)) ∧ w = w' := by
  have h72 := h.size_
  have Hv := Lib.hid (valid_any w g m h)
  clear h
  go_enter Tryd.func26, Tryd.ntmps26
  go_wp2_with fail
  refine Hv.out.mono ?_
  rintro e w' ⟨rfl, rfl⟩
  go_wp2
  go_ret
  exact ⟨rfl, rfl⟩

set_option maxRecDepth 100000 in
theorem write_any (w : World) (hp : Primes w) (g : Nat) (m : Msg) (h : MsgAt w g 71 made m) (hg0 : g ≠ 0) (n c : Nat) (A : Option Addr) (l : List UInt8) (hs : Src w g A n c l) (hn : m.n + n ≤ 1152921504606846976) :
    Calls Tryd.prog 24 #[.pointer (some ⟨g, 0, none⟩), .slice A n c] w fun e w' => e = .returned (.int .i64 0) ∧ MsgAt w' g 71 made (absorbs m (nums l)) ∧ w.grownBy w' (some g) := by
  have Hv := Lib.hid (valid_any w g m h)
  have Hro := Lib.hid (room_any w g m.n h.size_)
  have hlen := hs.byt.len
  have hle := hs.byt.le
  have hcap := hs.byt.cap
  unfold maxLen at hcap
  have hnl : (nums l).length = n := by rw [nums_length, hlen]
  by_cases hroom : n < 64 - m.n % 64
  · have d1 : decide ((n : Int) < ((64 - m.n % 64 : Nat) : Int)) = true := by simp; omega
    have hc := hold_any w g 71 made m h w.heap.size n c A l hs.byt (by omega)
    have hab : absorbs m (nums l) = ⟨m.st, putAll m.rest (m.n % 64) ((nums l).take (64 - m.n % 64)), m.n + min n (64 - m.n % 64)⟩ := by
      rw [absorbs_hold _ _ (by omega), List.take_of_length_le (by omega), hnl, Nat.min_eq_left (by omega)]
    have Hc := Lib.hid hc
    have Hab := Lib.hid hab
    generalize hR : absorbs m (nums l) = R at *
    generalize (64 - m.n % 64 : Nat) = rm at *
    clear hc hab h hs hp hnl
    go_enter Tryd.func24, Tryd.ntmps24
    go_wp2_with fail
    refine Hv.out.mono ?_
    rintro e w' ⟨rfl, rfl⟩
    go_wp2_with fail
    refine Hro.out.mono ?_
    rintro e w' ⟨rfl, rfl⟩
    go_wp2_with fail
    refine Hc.out.mono ?_
    rintro e w2 ⟨rfl, hm2, hg2⟩
    go_wp2
    go_ret
    exact ⟨rfl, by rw [Hab.out]; exact hm2, hg2⟩
  · have d1 : decide ((n : Int) < ((64 - m.n % 64 : Nat) : Int)) = false := by simp; omega
    have hpd : Primes w.drew := hp
    have hmd : MsgAt w.drew g 71 made m := ⟨h.blk, h.hs, h.hr, h.sw, h.rb⟩
    have hsd : Src w.drew g A n c l := ⟨hs.byt.drew, hs.apart⟩
    have Hcn := Lib.hid (constants_any w.drew hpd)
    have Hm := Lib.hid hmd
    have Hs := Lib.hid hsd
    have Hn : Hid (m.n + n ≤ 4611686018427387904) := by unfold Hid; omega
    generalize (64 - m.n % 64 : Nat) = rm at *
    clear h hs hp hpd hmd hsd hnl
    go_enter Tryd.func24, Tryd.ntmps24
    go_wp2_with fail
    refine Hv.out.mono ?_
    rintro e w' ⟨rfl, rfl⟩
    go_wp2_with fail
    refine Hro.out.mono ?_
    rintro e w' ⟨rfl, rfl⟩
    go_upto_region 5 with fail
    go_region_with (first
      | (go_at_call 11; (with_reducible refine Hcn.out.mono ?_); rintro e w1 ⟨rfl, hb1⟩
         have M1 := Lib.hid (Hm.out.here hb1)
         have S1 := Lib.hid (Hs.out.here hb1)
         have G1 : Hid (w.grownBy w1 (some g)) := ⟨hb1.os, hb1.tape, hb1.output, hb1.size, fun k hk _ => hb1.block k hk⟩
         clear hb1)
      | (go_at_call 36; (with_reducible refine (add_any w1 g 71 made m M1.out n c A l S1.out Hn.out).mono ?_); rintro e w2 ⟨rfl, hm2, hg2⟩
         have M2 := Lib.hid hm2
         have G2 := Lib.hid (grown_trans G1.out hg2)
         clear hm2 hg2))
    all_goals
      go_wp2
      go_ret
      exact ⟨rfl, M2.out, G2.out⟩
end Go.Proofs.YtpgjnmakpghamaaDoor

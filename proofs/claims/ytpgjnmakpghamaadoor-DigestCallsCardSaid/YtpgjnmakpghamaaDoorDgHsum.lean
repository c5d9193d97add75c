/- Sum of a hash. -/
import Derived.Test.YtpgjnmakpghamaaDoorDgHash
namespace Go.Proofs.YtpgjnmakpghamaaDoor
open Go.RowKit
set_option linter.unusedVariables false

theorem wp_store_row {o : Oper} {a : Act} {w : World} {K : Act → World → Prop} {Q : Exit → Act → World → Prop} (ty : TypeId) (x y : Operand) (ho : o.op = .store ty x y) (g : Nat) (hx : a.eval x = .pointer (some ⟨g, 0, none⟩)) (cs : Array Value) (hy : a.eval y = .agg cs) {t : TypeId} {cs0 : Array Value}
    (hb : BlkIs w g t cs0) (hi : (Tryd.prog.info? ty).map (·.size) = some cs.size) (hs : cs0.size = cs.size) (h1 : cs.all (·.oneCell') = true) (h : K (a.put o.dst undef) (w.setRow g cs)) : o.wp Tryd.prog a w K Q := by
  unfold Oper.wp execOp
  simp only [ho, hx, hy, Instr.storeAt, Instr.sureAddr, Sem.run_bind, Sem.run_pure, Result.andThen_ok, run_storeVar_row w g t ty cs0 cs hb hi hs h1]
  exact h
set_option maxRecDepth 100000 in
theorem sum_any (w : World) (hp : Primes w) (g : Nat) (m : Msg) (h : MsgAt w g 71 made m) (hn : m.n ≤ 1152921504606846976) :
    Calls Tryd.prog 25 #[.pointer (some ⟨g, 0, none⟩)] w fun e w' => e = .returned (.agg (u8s (digestN m))) ∧ Below w.heap.size w w' := by
  have hal : Below w.heap.size w (w.alloc (.cells (u8s noDigest) 23)) := (Below.refl _ _).alloc (Nat.le_refl _) _
  have hr := BlkIs.new w 23 (u8s noDigest)
  have Hv := Lib.hid (valid_any _ g m (h.here hal))
  have Hp := Lib.hid (hp.here hal)
  have Hm := Lib.hid (h.here hal)
  have Hal := Lib.hid hal
  have Hr := Lib.hid hr
  have hz32 : (u8s noDigest).size = 32 := by rw [u8s_size, noDigest_length]
  have Hz32 := Lib.hid hz32
  have Hne : Hid (g < w.heap.size) := h.blk.lt
  have hd32 : (u8s (digestN m)).size = 32 := by rw [u8s_size, digestN, dgN_length]
  have Hd32 := Lib.hid hd32
  have Im : Hid ((Tryd.prog.info? 61).map (·.size) = some (msgL m []).length) := by
    have := msgL_size m [] h.ok
    unfold Hid
    rw [infoMsg, ← List.size_toArray, this]
    rfl
  clear hal hr hz32 h hp hd32
  go_enter Tryd.func25, Tryd.ntmps25
  go_wp2_with fail
  rw [← zerosN]
  refine Hv.out.mono ?_
  rintro e w' ⟨rfl, hw⟩
  subst hw
  generalize w.alloc (.cells (u8s noDigest) 23) = W0 at *
  have hmd : MsgAt W0.drew g 71 made m := ⟨Hm.out.blk, Hm.out.hs, Hm.out.hr, Hm.out.sw, Hm.out.rb⟩
  have hpd : Primes W0.drew := Hp.out
  have Hmd := Lib.hid hmd
  have Hpd := Lib.hid hpd
  clear hmd hpd
  go_upto_region 3 with fail
  refine wp_region_held_drew (S := fun W => W.rangeAt g 0 (msgL m [])) (by kernel_rfl) (MsgAt.range_msg (w := W0.drew) Hmd.out) (fun hHeld => ?_)
  change wpAnyH _ _ _ _ _ 7 (Array.replicate 7 false) _ _
  refine wpAnyH_take (i := 0) (oi := { dst := some 7, op := Op.move (Operand.tmp 0), type := 41, pos := "digest.go:43", after := #[], guard := none }) (v := ?v0) rfl (by kernel_rfl) (by kernel_rfl) (by kernel_rfl) (fun _ _ _ h => h) (Or.inl ⟨by rfl, ?hy0⟩) hHeld ?rest0
  case hy0 =>
    intro W hSw
    go_simp
    try with_reducible rfl
  simp only [Act.put, List.setIfInBounds_toArray, List.set_cons_zero, List.set_cons_succ]
  refine wpAnyH_take (i := 1) (oi := { dst := some 8, op := Op.nilCheck (Operand.tmp 7), type := 0, pos := "digest.go:43", after := #[{ on := 0, ground := Ground.data }], guard := none }) (v := ?v1) rfl (by kernel_rfl) (by kernel_rfl) (by kernel_rfl) (fun _ _ _ h => h) (Or.inl ⟨by rfl, ?hy1⟩) hHeld ?rest1
  case hy1 =>
    intro W hSw
    go_simp
    try with_reducible rfl
  simp only [Act.put, List.setIfInBounds_toArray, List.set_cons_zero, List.set_cons_succ]
  refine wpAnyH_take (i := 2) (oi := { dst := some 9, op := Op.fieldAddr 71 (Operand.tmp 8) 0, type := 0, pos := "digest.go:43", after := #[{ on := 1, ground := Ground.data }], guard := none }) (v := ?v2) rfl (by kernel_rfl) (by kernel_rfl) (by kernel_rfl) (fun _ _ _ h => h) (Or.inl ⟨by rfl, ?hy2⟩) hHeld ?rest2
  case hy2 =>
    intro W hSw
    go_simp
    try with_reducible rfl
  simp only [Act.put, List.setIfInBounds_toArray, List.set_cons_zero, List.set_cons_succ]
  refine wpAnyH_take (i := 3) (oi := { dst := some 10, op := Op.load 61 (Operand.tmp 9), type := 61, pos := "digest.go:43", after := #[{ on := 2, ground := Ground.data }], guard := none }) rfl (by kernel_rfl) (by kernel_rfl) (by kernel_rfl) (fun _ _ _ h => h) (yieldsIf_load_mid (by rfl) 61 (.tmp 9) rfl g 0 rfl (msgL m []) _ (fun _ h => h) Tryd.underlying61 rfl Im.out) hHeld ?rest3
  simp only [Act.put, List.setIfInBounds_toArray, List.set_cons_zero, List.set_cons_succ]
  refine wpAnyH_ready (rs := [4]) (by kernel_rfl) (by simp) ?_
  refine AllReadyH.cons (o := { dst := some 11, op := Op.call { callee := Callee.value (Operand.func 11), args := #[], argTypes := #[] }, type := 31, pos := "digest.go:43", after := #[], guard := none }) rfl (fun K' hK => ?_) AllReadyH.nil
  go_simp
  refine (constants_any W0.drew Hpd.out).mono ?_
  rintro e w1 ⟨rfl, hb1⟩
  have M1 := Lib.hid (Hmd.out.here hb1)
  have R1 := Lib.hid (BlkIs.here (w := W0.drew) Hr.out hb1)
  have B1 := Lib.hid (Below.onR (w1 := W0.drew) Hal.out.drew hb1)
  clear hb1
  go_wp2_with fail
  refine hK.out _ _ M1.out.range_msg (fun hHeld => ?_)
  clear hK K'
  try simp only [Act.put, List.setIfInBounds_toArray, List.set_cons_zero, List.set_cons_succ]
  refine wpAnyH_ready (rs := [5]) (by kernel_rfl) (by simp) ?_
  refine AllReadyH.cons (o := { dst := some 12, op := Op.call { callee := Callee.value (Operand.func 37), args := #[Operand.tmp 10, Operand.tmp 11], argTypes := #[61, 31] }, type := 23, pos := "digest.go:43", after := #[{ on := 3, ground := Ground.data }, { on := 4, ground := Ground.data }, { on := 4, ground := Ground.chain }], guard := none }) rfl (fun K' hK => ?_) AllReadyH.nil
  go_simp
  refine (digest_any w1 m M1.out.ok hn).mono ?_
  rintro e w2 ⟨rfl, hb2⟩
  have M2 := Lib.hid (M1.out.here hb2)
  have R2 := Lib.hid (R1.out.here hb2)
  have B2 := Lib.hid (Below.onR B1.out hb2)
  clear hb2
  go_wp2_with fail
  refine hK.out _ _ M2.out.range_msg (fun hHeld => ?_)
  clear hK K'
  try simp only [Act.put, List.setIfInBounds_toArray, List.set_cons_zero, List.set_cons_succ]
  refine wpAnyH_ready (rs := [6]) (by kernel_rfl) (by simp) ?_
  refine AllReadyH.cons (o := { dst := none, op := Op.store 23 (Operand.tmp 2) (Operand.tmp 12), type := 0, pos := "digest.go:43", after := #[{ on := 5, ground := Ground.data }, { on := 5, ground := Ground.chain }, { on := 0, ground := Ground.phase }, { on := 1, ground := Ground.phase }, { on := 2, ground := Ground.phase }, { on := 3, ground := Ground.phase }, { on := 4, ground := Ground.phase }, { on := 5, ground := Ground.phase }], guard := none }) rfl (fun K' hK => ?_) AllReadyH.nil
  rw [if_pos (by rfl)]
  refine wp_store_row 23 (.tmp 2) (.tmp 12) rfl w.heap.size rfl (u8s (digestN m)) rfl R2.out (by rw [info32, Hd32.out]) (by rw [Hz32.out, Hd32.out]) (u8s_one _) ?_
  refine hK.out _ _ (M2.out.grown_ (grown_setRow w2 w.heap.size _) (by have := Hne.out; omega)).range_msg (fun hHeld => ?_)
  clear hK K'
  try simp only [Act.put]
  refine wpAnyH_done (by kernel_rfl) ?_ _
  go_wp2
  refine bodyPost_ret (results_cell_row rfl _ _ w.heap.size 23 (u8s (digestN m)) (0, 0) _ rfl (heap_setRow_same R2.out _) Tryd.underlying23 rfl (by rw [info32, Hd32.out])) rfl ?_
  exact ⟨rfl, B2.out.grown (grown_setRow _ _ _) B2.out.size (by intro q hq; injection hq with hq; omega)⟩
end Go.Proofs.YtpgjnmakpghamaaDoor

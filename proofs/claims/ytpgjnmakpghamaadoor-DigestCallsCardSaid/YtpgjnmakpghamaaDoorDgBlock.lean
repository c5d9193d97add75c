/- digest.Block. -/
import Derived.Test.YtpgjnmakpghamaaDoorDgHsum
namespace Go.Proofs.YtpgjnmakpghamaaDoor
open Go.RowKit
set_option linter.unusedVariables false

structure BlockM (w W : World) (b : Nat) (s l : List Nat) : Prop where
  s0 : BlkIs W b 29 (u32s s)
  l0 : BlkIs W (b + 1) 35 (u8s l)
  r0 : BlkIs W (b + 1 + 1) 29 (u32s (filled H0 0))
  here : Below w.heap.size w W
theorem BlockM.below {w W W' : World} {b : Nat} {s l : List Nat} (h : BlockM w W b s l) (hb : Below W.heap.size W W') : BlockM w W' b s l := ⟨h.s0.here hb, h.l0.here hb, h.r0.here hb, Below.onR h.here hb⟩
def BlockS (W : World) (b : Nat) (s l : List Nat) : Prop := W.rangeAt b 0 (u32s s).toList ∧ W.rangeAt (b + 1) 0 (u8s l).toList
theorem BlockM.reads {w W : World} {b : Nat} {s l : List Nat} (h : BlockM w W b s l) : BlockS W b s l := ⟨h.s0.range, h.l0.range⟩
theorem BlockM.start (w : World) (s l : List Nat) : BlockM w (((w.alloc (.cells (u32s s) 29)).alloc (.cells (u8s l) 35)).alloc (.cells (u32s (filled H0 0)) 29)) w.heap.size s l := by
  refine ⟨?_, ?_, ?_, ?_⟩
  · exact (BlkIs.new w _ _).here (((Below.refl _ _).alloc (Nat.le_refl _) _).alloc (by simp) _)
  · have h1 := BlkIs.new (w.alloc (.cells (u32s s) 29)) 35 (u8s l)
    have h2 := h1.here ((Below.refl _ _).alloc (Nat.le_refl _) (.cells (u32s (filled H0 0)) 29))
    simpa using h2
  · have h1 := BlkIs.new ((w.alloc (.cells (u32s s) 29)).alloc (.cells (u8s l) 35)) 29 (u32s (filled H0 0))
    simpa using h1
  · exact (((Below.refl _ _).alloc (Nat.le_refl _) _).alloc (by simp) _).alloc (by simp; omega) _

set_option maxRecDepth 100000 in
theorem block_any (w : World) (hp : Primes w) (s l : List Nat) (hs : s.length = 8) (hsw : Words s) (hl : l.length = 64) (hlb : ∀ i, l.getD i 0 < 256) :
    Calls Tryd.prog 17 #[.agg (u32s s), .agg (u8s l)] w fun e w' => e = .returned (.agg (u32s (mixedN s l K0))) ∧ Below w.heap.size w w' := by
  have hM := BlockM.start w s l
  have Hp := Lib.hid (hp.here hM.here)
  have HM := Lib.hid hM
  have Hs := Lib.hid hs
  have Hl := Lib.hid hl
  have Hsw := Lib.hid hsw
  have Hlb := Lib.hid hlb
  have Hs8 : Hid ((u32s s).size = 8) := by unfold Hid; rw [u32s_size, hs]
  have Hl64 : Hid ((u8s l).size = 64) := by unfold Hid; rw [u8s_size, hl]
  obtain ⟨r, hr⟩ : ∃ r, mixedN s l K0 = r := ⟨_, rfl⟩
  have Hr := Lib.hid hr
  have Hr8 : Hid ((u32s r).size = 8) := by unfold Hid; rw [u32s_size, ← hr, mixedN_length, hs]
  have Hz8 : Hid ((u32s (filled H0 0)).size = 8) := by unfold Hid; rw [zeros8]; rfl
  rw [hr]
  clear hp hM hs hl hsw hlb hr
  go_enter Tryd.func17, Tryd.ntmps17
  go_upto_region 1 with fail
  rw [← zeros8]
  generalize ((w.alloc (.cells (u32s s) 29)).alloc (.cells (u8s l) 35)).alloc (.cells (u32s (filled H0 0)) 29) = W0 at *
  have hmd : BlockM w W0.drew w.heap.size s l := ⟨HM.out.s0, HM.out.l0, HM.out.r0, HM.out.here.drew⟩
  have hpd : Primes W0.drew := Hp.out
  have Hmd := Lib.hid hmd
  have Hpd := Lib.hid hpd
  clear hmd hpd HM Hp
  refine wp_region_held_drew (S := fun W => BlockS W w.heap.size s l) (by kernel_rfl) Hmd.out.reads (fun hHeld => ?_)
  change wpAnyH _ _ _ _ _ 5 (Array.replicate 5 false) _ _
  refine wpAnyH_take (i := 0) (oi := { dst := some 5, op := Op.load 29 (Operand.tmp 2), type := 29, pos := "block.go:19", after := #[], guard := none }) rfl (by kernel_rfl) (by kernel_rfl) (by kernel_rfl) (fun _ _ _ h => h) (yieldsIf_load_mid (by rfl) 29 (.tmp 2) rfl w.heap.size 0 rfl (u32s s).toList _ (fun _ h => h.1) Tryd.underlying29 rfl (by rw [info8, Array.length_toList, Hs8.out])) hHeld ?rest0
  try simp only [Act.put, List.setIfInBounds_toArray, List.set_cons_zero, List.set_cons_succ]
  refine wpAnyH_take (i := 1) (oi := { dst := some 6, op := Op.load 35 (Operand.tmp 3), type := 35, pos := "block.go:19", after := #[], guard := none }) rfl (by kernel_rfl) (by kernel_rfl) (by kernel_rfl) (fun _ _ _ h => h) (yieldsIf_load_mid (by rfl) 35 (.tmp 3) rfl (w.heap.size + 1) 0 rfl (u8s l).toList _ (fun _ h => h.2) Tryd.underlying35 rfl (by rw [info64b, Array.length_toList, Hl64.out])) hHeld ?rest1
  try simp only [Act.put, List.setIfInBounds_toArray, List.set_cons_zero, List.set_cons_succ]
  refine wpAnyH_ready (rs := [2]) (by kernel_rfl) (by simp) ?_
  refine AllReadyH.cons (o := { dst := some 7, op := Op.call { callee := Callee.value (Operand.func 11), args := #[], argTypes := #[] }, type := 31, pos := "block.go:19", after := #[], guard := none }) rfl (fun K' hK => ?_) AllReadyH.nil
  go_simp
  refine (constants_any W0.drew Hpd.out).mono ?_
  rintro e w1 ⟨rfl, hb1⟩
  have M1 := Lib.hid (Hmd.out.below hb1)
  clear hb1
  go_wp2_with fail
  refine hK.out _ _ M1.out.reads (fun hHeld => ?_)
  clear hK K'
  try simp only [Act.put, List.setIfInBounds_toArray, List.set_cons_zero, List.set_cons_succ]
  refine wpAnyH_ready (rs := [3]) (by kernel_rfl) (by simp) ?_
  refine AllReadyH.cons (o := { dst := some 8, op := Op.call { callee := Callee.value (Operand.func 39), args := #[Operand.tmp 5, Operand.tmp 6, Operand.tmp 7], argTypes := #[29, 35, 31] }, type := 29, pos := "block.go:19", after := #[{ on := 0, ground := Ground.data }, { on := 1, ground := Ground.data }, { on := 2, ground := Ground.data }, { on := 2, ground := Ground.chain }], guard := none }) rfl (fun K' hK => ?_) AllReadyH.nil
  go_simp
  refine (mixed_any w1 s l K0 Hs.out Hsw.out Hl.out Hlb.out K0_length K0_words).mono ?_
  rintro e w2 ⟨rfl, hb2⟩
  have M2 := Lib.hid (M1.out.below hb2)
  clear hb2
  rw [Hr.out]
  go_wp2_with fail
  refine hK.out _ _ M2.out.reads (fun hHeld => ?_)
  clear hK K'
  try simp only [Act.put, List.setIfInBounds_toArray, List.set_cons_zero, List.set_cons_succ]
  refine wpAnyH_ready (rs := [4]) (by kernel_rfl) (by simp) ?_
  refine AllReadyH.cons (o := { dst := none, op := Op.store 29 (Operand.tmp 4) (Operand.tmp 8), type := 0, pos := "block.go:19", after := #[{ on := 3, ground := Ground.data }, { on := 3, ground := Ground.chain }, { on := 0, ground := Ground.phase }, { on := 1, ground := Ground.phase }, { on := 2, ground := Ground.phase }, { on := 3, ground := Ground.phase }], guard := none }) rfl (fun K' hK => ?_) AllReadyH.nil
  rw [if_pos (by rfl)]
  refine wp_store_row 29 (.tmp 4) (.tmp 8) rfl (w.heap.size + 1 + 1) rfl (u32s r) rfl M2.out.r0 (by rw [info8, Hr8.out]) (by rw [Hz8.out, Hr8.out]) (u32s_one _) ?_
  have G2 := grown_setRow w2 (w.heap.size + 1 + 1) (u32s r)
  refine hK.out _ _ ⟨(M2.out.s0.grown G2 (by intro e; injection e with e; omega)).range, (M2.out.l0.grown G2 (by intro e; injection e with e; omega)).range⟩ (fun hHeld => ?_)
  clear hK K'
  try simp only [Act.put]
  refine wpAnyH_done (by kernel_rfl) ?_ _
  go_wp2
  refine bodyPost_ret (results_cell_row rfl _ _ (w.heap.size + 1 + 1) 29 (u32s r) (0, 0) _ rfl (heap_setRow_same M2.out.r0 _) Tryd.underlying29 rfl (by rw [info8, Hr8.out])) rfl ?_
  exact ⟨rfl, M2.out.here.grown (grown_setRow _ _ _) M2.out.here.size (by intro q hq; injection hq with hq; omega)⟩
end Go.Proofs.YtpgjnmakpghamaaDoor

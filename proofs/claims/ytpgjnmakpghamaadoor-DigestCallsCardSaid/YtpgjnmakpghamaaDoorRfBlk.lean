/- The reference: Block. -/
import Derived.Test.YtpgjnmakpghamaaDoorRfBlock
namespace Go.Proofs.YtpgjnmakpghamaaDoor
open Go.RowKit
set_option linter.unusedVariables false

def bytesOf (l : List Nat) : List UInt8 := l.map UInt8.ofNat
theorem nums_bytesOf (l : List Nat) (h : ∀ i, l.getD i 0 < 256) : nums (bytesOf l) = l := by
  unfold nums bytesOf
  rw [List.map_map]
  apply List.ext_getElem
  · simp
  · intro i h1 h2
    have := h i
    simp only [List.getD, List.getElem?_eq_getElem h2, Option.getD_some] at this
    simp
    omega
theorem byt_of_blk {W : World} {g : Nat} {t : TypeId} {l : List Nat} (h : BlkIs W g t (u8s l)) (hl : l.length = 64) (hb : ∀ i, l.getD i 0 < 256) : Byt W W.heap.size (some ⟨g, 0, none⟩) 64 64 (bytesOf l) := by
  refine ⟨by simp [bytesOf, hl], Nat.le_refl _, by unfold maxLen; omega, fun _ => ⟨g, 0, rfl, h.lt, fun j hj => ?_⟩⟩
  rw [Nat.zero_add, h.cell, u8s_get _ _ (by rw [hl]; exact hj)]
  have hlj : j < (bytesOf l).length := by simp [bytesOf, hl, hj]
  rw [nth_eq _ _ hlj]
  have := hb j
  have e : l.getD j 0 = l[j]'(by rw [hl]; exact hj) := by simp [List.getD, hl, hj]
  rw [e] at this ⊢
  simp only [bytesOf, List.getElem_map, UInt8.toNat_ofNat']
  congr 2
  omega

set_option maxRecDepth 100000 in
theorem rblk_any (w : World) (s l : List Nat) (hs : s.length = 8) (hsw : Words s) (hl : l.length = 64) (hlb : ∀ i, l.getD i 0 < 256) :
    Calls Tryd.prog 18 #[.agg (u32s s), .agg (u8s l)] w fun e w' => e = .returned (.agg (u32s (mixedN s l K0))) ∧ Below w.heap.size w w' := by
  have hM := BlockM.start w s l
  have HM := Lib.hid hM
  have Hs := Lib.hid hs
  have Hl := Lib.hid hl
  have Hsw := Lib.hid hsw
  have Hlb := Lib.hid hlb
  have Hs8 : Hid ((u32s s).size = 8) := by unfold Hid; rw [u32s_size, hs]
  obtain ⟨r, hr⟩ : ∃ r, mixedN s l K0 = r := ⟨_, rfl⟩
  have Hr8 : Hid ((u32s r).size = 8) := by unfold Hid; rw [u32s_size, ← hr, mixedN_length, hs]
  have Hz8 : Hid ((u32s (filled H0 0)).size = 8) := by unfold Hid; rw [zeros8]; rfl
  have Hr := Lib.hid (show mixedN s (nums (bytesOf l)) K0 = r by rw [nums_bytesOf l hlb]; exact hr)
  rw [hr]
  clear hM hs hl hsw hlb hr
  go_enter Tryd.func18, Tryd.ntmps18
  go_upto_region 1 with fail
  rw [← zeros8]
  generalize ((w.alloc (.cells (u32s s) 29)).alloc (.cells (u8s l) 35)).alloc (.cells (u32s (filled H0 0)) 29) = W0 at *
  have hmd : BlockM w W0.drew w.heap.size s l := ⟨HM.out.s0, HM.out.l0, HM.out.r0, HM.out.here.drew⟩
  have Hmd := Lib.hid hmd
  clear hmd HM
  refine wp_region_held_drew (S := fun W => BlockS W w.heap.size s l) (by kernel_rfl) Hmd.out.reads (fun hHeld => ?_)
  change wpAnyH _ _ _ _ _ 5 (Array.replicate 5 false) _ _
  refine wpAnyH_take (i := 1) (oi := { dst := some 6, op := Op.load 29 (Operand.tmp 2), type := 29, pos := "ref.go:103", after := #[], guard := none }) rfl (by kernel_rfl) (by kernel_rfl) (by kernel_rfl) (fun _ _ _ h => h) (yieldsIf_load_mid (by rfl) 29 (.tmp 2) rfl w.heap.size 0 rfl (u32s s).toList _ (fun _ h => h.1) Tryd.underlying29 rfl (by rw [info8, Array.length_toList, Hs8.out])) hHeld ?rest1
  try simp only [Act.put, List.setIfInBounds_toArray, List.set_cons_zero, List.set_cons_succ]
  refine wpAnyH_take (i := 2) (oi := { dst := some 7, op := Op.slice 35 (Operand.tmp 3) none none none, type := 33, pos := "ref.go:103", after := #[], guard := none }) (v := ?v2) rfl (by kernel_rfl) (by kernel_rfl) (by kernel_rfl) (fun _ _ _ h => h) (Or.inl ⟨by rfl, ?hy2⟩) hHeld ?rest2
  case hy2 =>
    intro W hSw
    go_simp
    try with_reducible rfl
  try simp only [Act.put, List.setIfInBounds_toArray, List.set_cons_zero, List.set_cons_succ]
  refine wpAnyH_ready (rs := [0]) (by kernel_rfl) (by simp) ?_
  refine AllReadyH.cons (o := { dst := some 5, op := Op.call { callee := Callee.value (Operand.func 22), args := #[], argTypes := #[] }, type := 31, pos := "ref.go:103", after := #[], guard := none }) rfl (fun K' hK => ?_) AllReadyH.nil
  go_simp
  refine (rconst_any W0.drew).mono ?_
  rintro e w1 ⟨rfl, hb1⟩
  have M1 := Lib.hid (Hmd.out.below hb1)
  clear hb1
  show K' _ w1
  refine hK.out _ _ M1.out.reads (fun hHeld => ?_)
  clear hK K'
  try simp only [Act.put, List.setIfInBounds_toArray, List.set_cons_zero, List.set_cons_succ]
  refine wpAnyH_ready (rs := [3]) (by kernel_rfl) (by simp) ?_
  refine AllReadyH.cons (o := { dst := some 8, op := Op.call { callee := Callee.value (Operand.func 38), args := #[Operand.tmp 5, Operand.tmp 6, Operand.tmp 7], argTypes := #[31, 29, 33] }, type := 29, pos := "ref.go:103", after := #[{ on := 0, ground := Ground.data }, { on := 1, ground := Ground.data }, { on := 2, ground := Ground.data }, { on := 0, ground := Ground.chain }], guard := none }) rfl (fun K' hK => ?_) AllReadyH.nil
  go_simp
  refine (rblock_any w1 K0 s (some ⟨w.heap.size + 1, 0, none⟩) 64 (bytesOf l) K0_length K0_words Hs.out Hsw.out (byt_of_blk M1.out.l0 Hl.out Hlb.out)).mono ?_
  rintro e w2 ⟨rfl, hb2⟩
  have M2 := Lib.hid (M1.out.below hb2)
  clear hb2
  rw [Hr.out]
  show K' _ w2
  refine hK.out _ _ M2.out.reads (fun hHeld => ?_)
  clear hK K'
  try simp only [Act.put, List.setIfInBounds_toArray, List.set_cons_zero, List.set_cons_succ]
  refine wpAnyH_ready (rs := [4]) (by kernel_rfl) (by simp) ?_
  refine AllReadyH.cons (o := { dst := none, op := Op.store 29 (Operand.tmp 4) (Operand.tmp 8), type := 0, pos := "ref.go:103", after := #[{ on := 3, ground := Ground.data }, { on := 3, ground := Ground.chain }, { on := 0, ground := Ground.phase }, { on := 1, ground := Ground.phase }, { on := 2, ground := Ground.phase }, { on := 3, ground := Ground.phase }], guard := none }) rfl (fun K' hK => ?_) AllReadyH.nil
  rw [if_pos (by rfl)]
  refine wp_store_row 29 (.tmp 4) (.tmp 8) rfl (w.heap.size + 1 + 1) rfl (u32s r) rfl M2.out.r0 (by rw [info8, Hr8.out]) (by rw [Hz8.out, Hr8.out]) (u32s_one _) ?_
  have G2 := grown_setRow w2 (w.heap.size + 1 + 1) (u32s r)
  refine hK.out _ _ ⟨(M2.out.s0.grown G2 (by intro e; injection e with e; omega)).range, (M2.out.l0.grown G2 (by intro e; injection e with e; omega)).range⟩ (fun hHeld => ?_)
  clear hK K'
  try simp only [Act.put]
  refine wpAnyH_done (by kernel_rfl) ?_ _
  go_wp2
  refine bodyPost_ret (results_cell_row rfl _ _ (w.heap.size + 1 + 1) 29 (u32s r) (0, 0) _ rfl (heap_setRow_same M2.out.r0 _) Tryd.underlying29 rfl (by rw [info8, Hr8.out])) rfl ?_
  exact ⟨rfl, M2.out.here.grown (grown_setRow _ _ _) M2.out.here.size (by intro q hq; injection hq with hq; omega)⟩
end Go.Proofs.YtpgjnmakpghamaaDoor

/- The digest of a message. -/
import Derived.Test.YtpgjnmakpghamaaDoorDgPad
namespace Go.Proofs.YtpgjnmakpghamaaDoor
open Go.RowKit
set_option linter.unusedVariables false

def dgAt (st : List Nat) (i : Nat) : Nat := st.getD (i / 4) 0 / 2 ^ (24 - i % 4 * 8) % 256
/-- The bytes of a state. -/
def dgN (st : List Nat) : List Nat := (List.range 32).map (dgAt st)
theorem dgN_length (st : List Nat) : (dgN st).length = 32 := by simp [dgN]
theorem dgN_at (st : List Nat) (i : Nat) (h : i < 32) : (dgN st).getD i 0 = dgAt st i := by
  rw [dgN, List.getD, List.getElem?_map, List.getElem?_range h]
  rfl
theorem dgN_bytes (st : List Nat) : Bytes (dgN st) := fun i => by
  by_cases h : i < 32
  · rw [dgN_at st i h]
    exact Nat.mod_lt _ (by omega)
  · rw [List.getD, List.getElem?_eq_none (by rw [dgN_length]; omega)]
    decide
structure MsgOk (m : Msg) : Prop where
  hs : m.st.length = 8
  hr : m.rest.length = 64
  sw : Words m.st
  rb : Bytes m.rest
theorem absorb_ok (m : Msg) (c : Nat) (hc : c < 256) (h : MsgOk m) : MsgOk (absorb m c) := by
  unfold absorb
  split
  · exact ⟨by rw [mixedN_length, h.hs], by simp [h.hr], mixedN_words _ _ _ h.sw, h.rb.set _ _ hc⟩
  · exact ⟨h.hs, by simp [h.hr], h.sw, h.rb.set _ _ hc⟩
theorem absorbs_ok : ∀ (l : List Nat) (m : Msg), Bytes l → MsgOk m → MsgOk (absorbs m l)
  | [], _, _, h => h
  | c :: r, m, hb, h => absorbs_ok r (absorb m c) hb.cons.2 (absorb_ok m c hb.cons.1 h)
/-- The digest of a message that is padded. -/
def digestN (m : Msg) : List Nat := dgN (absorbs m (nums (padU m.n))).st

theorem MsgAt.cell_st {w : World} {g : Nat} {t : TypeId} {ex : List Value} {m : Msg} (h : MsgAt w g t ex m) (i : Nat) (hi : i < 8) : w.cell? ⟨g, i, none⟩ = some (.int .u32 (m.st.getD i 0 : Nat)) := by
  have := h.range_st i (.int .u32 (m.st.getD i 0 : Nat)) (by rw [Array.getElem?_toList]; exact u32s_get _ _ (by rw [h.hs]; exact hi))
  rwa [Nat.zero_add] at this
theorem MsgAt.grown_ {w w' : World} {g : Nat} {t : TypeId} {ex : List Value} {m : Msg} (h : MsgAt w g t ex m) {k : Nat} (hg : w.grownBy w' (some k)) (hne : g ≠ k) : MsgAt w' g t ex m := ⟨h.blk.grown hg (by simpa using hne), h.hs, h.hr, h.sw, h.rb⟩
theorem zeros32 : u8s (List.replicate 32 0) = #[.int .u8 0, .int .u8 0, .int .u8 0, .int .u8 0, .int .u8 0, .int .u8 0, .int .u8 0, .int .u8 0, .int .u8 0, .int .u8 0, .int .u8 0, .int .u8 0, .int .u8 0, .int .u8 0, .int .u8 0, .int .u8 0, .int .u8 0, .int .u8 0, .int .u8 0, .int .u8 0, .int .u8 0, .int .u8 0, .int .u8 0, .int .u8 0, .int .u8 0, .int .u8 0, .int .u8 0, .int .u8 0, .int .u8 0, .int .u8 0, .int .u8 0, .int .u8 0] := rfl
theorem u8s_set (l : List Nat) (i x : Nat) : (u8s l).setIfInBounds i (.int .u8 (x : Int)) = u8s (l.set i x) := by simp [u8s, List.map_set]
set_option maxRecDepth 100000 in
theorem digest_any (w : World) (m : Msg) (hm : MsgOk m) (hn : m.n ≤ 1152921504606846976) :
    Calls Tryd.prog 37 #[.agg (msgL m []).toArray, .agg (u32s K0)] w fun e w' => e = .returned (.agg (u8s (digestN m))) ∧ Below w.heap.size w w' := by
  have Hm := Lib.hid hm
  clear hm
  go_enter Tryd.func37, Tryd.ntmps37
  go_upto_region 1 with fail
  rw [← zeros32]
  obtain ⟨W0, hW0⟩ : ∃ W, ((w.alloc (.cells (msgL m []).toArray 61)).alloc (.cells (u32s K0) 31)).alloc (.cells (u8s (List.replicate 32 0)) 23) = W := ⟨_, rfl⟩
  have hbel : Below w.heap.size w W0 := by rw [← hW0]; exact (((Below.refl _ _).alloc (Nat.le_refl _) _).alloc (by simp) _).alloc (by simp; omega) _
  have hsz : W0.heap.size = w.heap.size + 1 + 1 + 1 := by rw [← hW0]; simp
  have hb0 : BlkIs W0 w.heap.size 61 (msgL m []).toArray := by
    rw [← hW0]
    exact (BlkIs.new w _ _).here (((Below.refl _ _).alloc (Nat.le_refl _) _).alloc (by simp) _)
  have hb1 : BlkIs W0 (w.heap.size + 1) 31 (u32s K0) := by
    rw [← hW0]
    have := (BlkIs.new (w.alloc (.cells (msgL m []).toArray 61)) 31 (u32s K0)).here ((Below.refl _ _).alloc (Nat.le_refl _) (.cells (u8s (List.replicate 32 0)) 23))
    simpa using this
  have hb2 : BlkIs W0 (w.heap.size + 1 + 1) 23 (u8s (List.replicate 32 0)) := by
    rw [← hW0]
    simpa using BlkIs.new ((w.alloc (.cells (msgL m []).toArray 61)).alloc (.cells (u32s K0) 31)) 23 (u8s (List.replicate 32 0))
  have hma : MsgAt W0 w.heap.size 61 [] m := ⟨hb0, Hm.out.hs, Hm.out.hr, Hm.out.sw, Hm.out.rb⟩
  have hmd : MsgAt W0.drew w.heap.size 61 [] m := ⟨hb0, Hm.out.hs, Hm.out.hr, Hm.out.sw, Hm.out.rb⟩
  have c72 := hmd.size_
  have Hmd := Lib.hid hmd
  have Hk := Lib.hid hb1
  have Hr := Lib.hid hb2
  have Hbel := Lib.hid hbel
  have Hsz := Lib.hid hsz
  have S0 := Lib.hid (BlkIs.range (w := W0.drew) hb1)
  have Iu64 : Hid ((Tryd.prog.info? 31).map (·.size) = some (u32s K0).toList.length) := by unfold Hid; rw [info64, Array.length_toList, u32s_size, K0_length]
  rw [hW0]
  clear hW0 hbel hsz hb0 hb1 hb2 hma hmd
  refine wp_region_held_drew (S := fun W => W.rangeAt (w.heap.size + 1) 0 (u32s K0).toList) (by kernel_rfl) S0.out (fun hHeld => ?_)
  change wpAnyH _ _ _ _ _ 5 (Array.replicate 5 false) _ _
  refine wpAnyH_take (i := 0) (oi := { dst := some 7, op := Op.fieldAddr 61 (Operand.tmp 2) 2, type := 0, pos := "message.go:67", after := #[], guard := none }) (v := ?v0) rfl (by kernel_rfl) (by kernel_rfl) (by kernel_rfl) (fun _ _ _ h => h) (Or.inl ⟨by rfl, ?hy0⟩) hHeld ?rest0
  case hy0 =>
    intro W hSw
    go_simp
    try with_reducible rfl
  simp only [Act.put, List.setIfInBounds_toArray, List.set_cons_zero, List.set_cons_succ]
  refine wpAnyH_take (i := 3) (oi := { dst := some 10, op := Op.load 31 (Operand.tmp 3), type := 31, pos := "message.go:67", after := #[], guard := none }) rfl (by kernel_rfl) (by kernel_rfl) (by kernel_rfl) (fun _ _ _ h => h) (yieldsIf_load_mid (by rfl) 31 (.tmp 3) rfl (w.heap.size + 1) 0 rfl (u32s K0).toList _ (fun _ h => h) Tryd.underlying31 rfl Iu64.out) hHeld ?rest3
  simp only [Act.put, List.setIfInBounds_toArray, List.set_cons_zero, List.set_cons_succ]
  refine wpAnyH_ready (rs := [1]) (by kernel_rfl) (by simp) ?_
  refine AllReadyH.cons (o := { dst := some 8, op := Op.load 3 (Operand.tmp 7), type := 3, pos := "message.go:67", after := #[{ on := 0, ground := Ground.data }], guard := none }) rfl (fun K' hK => ?_) AllReadyH.nil
  go_simp
  refine hK.out _ _ S0.out (fun hHeld => ?_)
  clear hK K'
  try simp only [Act.put, List.setIfInBounds_toArray, List.set_cons_zero, List.set_cons_succ]
  refine wpAnyH_ready (rs := [2]) (by kernel_rfl) (by simp) ?_
  refine AllReadyH.cons (o := { dst := some 9, op := Op.call { callee := Callee.value (Operand.func 12), args := #[Operand.tmp 8], argTypes := #[3] }, type := 33, pos := "message.go:67", after := #[{ on := 1, ground := Ground.data }], guard := none }) rfl (fun K' hK => ?_) AllReadyH.nil
  go_simp
  refine (pad_any W0.drew m.n hn).mono ?_
  rintro e w2 ⟨Ap, cp, rfl, hop, hbp⟩
  have M2 := Lib.hid (Hmd.out.here hbp)
  have K2 := Lib.hid (BlkIs.here (w := W0.drew) Hk.out hbp)
  have R2 := Lib.hid (BlkIs.here (w := W0.drew) Hr.out hbp)
  have B2 := Lib.hid (Below.onR (w1 := W0.drew) Hbel.out.drew hbp)
  have Src2 : Hid (Src w2 w.heap.size Ap (1 + zerosOf m.n + 8) cp (padU m.n)) := ⟨hop.byt, fun h0 b o s e => by
    obtain ⟨g', e1, e2, _⟩ := hop.block (by omega)
    rw [e1] at e
    injection e with e
    injection e with e3 e4 e5
    have e6 : W0.heap.size ≤ g' := e2
    have := Hsz.out
    omega⟩
  clear hop hbp
  go_wp2_with fail
  refine hK.out _ _ (BlkIs.range K2.out) (fun hHeld => ?_)
  clear hK K'
  try simp only [Act.put, List.setIfInBounds_toArray, List.set_cons_zero, List.set_cons_succ]
  refine wpAnyH_ready (rs := [4]) (by kernel_rfl) (by simp) ?_
  refine AllReadyH.cons (o := { dst := some 11, op := Op.call { callee := Callee.value (Operand.func 36), args := #[Operand.tmp 2, Operand.tmp 9, Operand.tmp 10], argTypes := #[61, 33, 31] }, type := 0, pos := "message.go:67", after := #[{ on := 2, ground := Ground.data }, { on := 3, ground := Ground.data }, { on := 2, ground := Ground.chain }], guard := none }) rfl (fun K' hK => ?_) AllReadyH.nil
  go_simp
  refine (add_any w2 w.heap.size 61 [] m M2.out (1 + zerosOf m.n + 8) cp Ap (padU m.n) Src2.out (by have : zerosOf m.n < 64 := Nat.mod_lt _ (by omega); omega)).mono ?_
  rintro e w3 ⟨rfl, hm3, hg3⟩
  have M3 := Lib.hid hm3
  have K3 := Lib.hid (BlkIs.grown K2.out hg3 (by simp))
  have R3 := Lib.hid (BlkIs.grown R2.out hg3 (by simp; omega))
  have B3 := Lib.hid (B2.out.grown hg3 B2.out.size (by intro q hq; injection hq with hq; omega))
  clear hm3 hg3
  go_wp2_with fail
  refine hK.out _ _ (BlkIs.range K3.out) (fun hHeld => ?_)
  clear hK K'
  try simp only [Act.put, List.setIfInBounds_toArray, List.set_cons_zero, List.set_cons_succ]
  refine wpAnyH_done (by kernel_rfl) ?_ _
  obtain ⟨st, hst⟩ : ∃ st, (absorbs m (nums (padU m.n))).st = st := ⟨_, rfl⟩
  have hres : digestN m = dgN st := by rw [digestN, hst]
  have cst : ∀ (W : World) (i : Nat), MsgAt W w.heap.size 61 [] (absorbs m (nums (padU m.n))) → i < 8 → W.cell? ⟨w.heap.size, i, none⟩ = some (.int .u32 (st.getD i 0 : Nat)) := fun W i h hi => by rw [← hst]; exact h.cell_st i hi
  have Hcst := Lib.hid cst
  have Hres := Lib.hid hres
  clear hst hres cst c72 hHeld
  go_wp2
  rw [← zeros32]
  have hlen32 : (dgN st).length = 32 := dgN_length st
  have hf0 : List.replicate 32 0 = filled (dgN st) 0 := by rw [filled_zero, hlen32]
  have hal : Below w3.heap.size w3 (w3.alloc (.cells (u8s (List.replicate 32 0)) 23)) := (Below.refl _ _).alloc (Nat.le_refl _) _
  obtain ⟨nd, hnd⟩ : ∃ nd, w3.heap.size = nd := ⟨_, rfl⟩
  have hndlt : w.heap.size + 1 + 1 < nd := by rw [← hnd]; exact R3.out.lt
  have hbd : BlkIs (w3.alloc (.cells (u8s (List.replicate 32 0)) 23)) nd 23 (u8s (filled (dgN st) 0)) := by rw [← hf0, ← hnd]; exact BlkIs.new _ _ _
  have HD := Lib.hid hbd
  have HM := Lib.hid (M3.out.here hal)
  have HR := Lib.hid (R3.out.here hal)
  have HB := Lib.hid (B3.out.alloc B3.out.size (.cells (u8s (List.replicate 32 0)) 23))
  have Hlen := Lib.hid hlen32
  rw [hnd]
  clear hf0 hal hbd hlen32 hnd M3 K3 R3 B3
  generalize w3.alloc (.cells (u8s (List.replicate 32 0)) 23) = w4 at *
  go_loopw [12] (fun x wr => ∃ i : Nat, x = .int .i64 i ∧ i ≤ 32 ∧ MsgAt wr w.heap.size 61 [] (absorbs m (nums (padU m.n))) ∧ BlkIs wr (w.heap.size + 1 + 1) 23 (u8s (List.replicate 32 0)) ∧ BlkIs wr nd 23 (u8s (filled (dgN st) i)) ∧ Below w.heap.size w wr) (fun x _ => 32 - (intOf x).toNat)
  case atStart => exact ⟨0, rfl, by omega, HM.out, HR.out, HD.out, HB.out⟩
  case round =>
    obtain ⟨i, rfl, hi, hm, hr, hd, hb⟩ := hrel
    clear HM HR HD HB
    have HM := Lib.hid hm
    have HR := Lib.hid hr
    have HD := Lib.hid hd
    have HB := Lib.hid hb
    by_cases hlt : i < 32
    · have c0 := Hcst.out wr (i / 4) hm (by omega)
      have c1 : wr.cell? ⟨nd, i, none⟩ = some (.int .u8 ((filled (dgN st) i).getD i 0 : Nat)) := by rw [hd.cell]; exact u8s_get _ _ (by rw [filled_length _ _ (by rw [Hlen.out]; omega), Hlen.out]; exact hlt)
      have f1 := hd.frozen i
      have hset := filled_set (dgN st) i (by rw [Hlen.out]; exact hlt)
      rw [dgN_at st i hlt, dgAt] at hset
      obtain ⟨sh, hsh⟩ : ∃ sh : Nat, 24 - i % 4 * 8 = sh := ⟨_, rfl⟩
      rw [hsh] at hset
      have es : 24 - (i : Int) % 4 * 8 = (sh : Int) := by omega
      generalize st.getD (i / 4) 0 = x at *
      have hv : (x : Int) / 2 ^ sh % 256 = ((x / 2 ^ sh % 256 : Nat) : Int) := by
        have ep : ((2 ^ sh : Nat) : Int) = (2 : Int) ^ sh := by simp
        rw [← ep, ← Int.natCast_ediv]
        generalize x / 2 ^ sh = q
        omega
      have Hset := Lib.hid hset
      have Hv := Lib.hid hv
      have i1 : (i : Int) < 32 := by omega
      have i0 : (0 : Int) ≤ i := by omega
      have i8 : (i : Int) / 4 < 8 := by omega
      clear hm hr hd hb hset hsh hv
      go_wp2
      go_roundw
      case rel =>
        have hs := HD.out.set i (.int .u8 ((x / 2 ^ sh % 256 : Nat) : Int))
        rw [u8s_set, Hset.out, ← Hv.out] at hs
        have hgr := grown_set wr nd i (.int .u8 ((x : Int) / 2 ^ sh % 256))
        exact ⟨i + 1, by go_num, by omega, HM.out.grown_ hgr (by omega), HR.out.grown hgr (by simp; omega), hs, HB.out.grown hgr HB.out.size (by intro q hq; injection hq with hq; omega)⟩
      case measure => simp [intOf]; omega
    · obtain rfl : i = 32 := by omega
      have hend : filled (dgN st) 32 = dgN st := by
        have := filled_end (dgN st)
        rwa [Hlen.out] at this
      rw [hend] at HD
      have hs1 : (u8s (dgN st)).size = 32 := by rw [u8s_size, Hlen.out]
      have hs0 : (u8s (List.replicate 32 0)).size = 32 := by rw [u8s_size]; simp
      have Hs1 := Lib.hid hs1
      have Hs0 := Lib.hid hs0
      clear hm hr hd hb hend hs1 hs0
      go_wp2_with (first
        | (refine wpList_load_row rfl 23 (.tmp 5) rfl nd rfl 23 (u8s (dgN st)) (0, 0) _ HD.out Tryd.underlying23 rfl (by rw [info32, Hs1.out]) ?_)
        | (refine wp_store_blk rfl 23 (.tmp 4) (.tmp 29) rfl (w.heap.size + 1 + 1) rfl (u8s (dgN st)) rfl HR.out (by rw [info32, Hs1.out]) (by rw [Hs0.out, Hs1.out]) (u8s_one _) ?_))
      refine bodyPost_ret (results_cell_row rfl _ _ (w.heap.size + 1 + 1) 23 (u8s (dgN st)) (0, 0) _ rfl (heap_setRow_same HR.out _) Tryd.underlying23 rfl (by rw [info32, Hs1.out])) rfl ?_
      exact ⟨by rw [Hres.out], HB.out.grown (grown_setRow _ _ _) HB.out.size (by intro q hq; injection hq with hq; omega)⟩
end Go.Proofs.YtpgjnmakpghamaaDoor

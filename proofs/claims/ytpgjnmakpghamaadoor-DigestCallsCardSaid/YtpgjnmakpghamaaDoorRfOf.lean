/- The reference: Of. -/
import Derived.Test.YtpgjnmakpghamaaDoorRfBlk
import Derived.Test.YtpgjnmakpghamaaDoorRfPad
import Derived.Test.YtpgjnmakpghamaaDoorDgStepsPure
namespace Go.Proofs.YtpgjnmakpghamaaDoor
open Go.RowKit
set_option linter.unusedVariables false

/-- What Of keeps ahead of its message: the digest's block, the message. -/
structure OfB (w W : World) (A : Option Addr) (n c : Nat) (l : List UInt8) : Prop where
  dg : BlkIs W w.heap.size 23 (u8s noDigest)
  byt : Byt W w.heap.size A n c l
  here : Below w.heap.size w W
theorem OfB.below {w W W' : World} {A : Option Addr} {n c : Nat} {l : List UInt8} (h : OfB w W A n c l) (hb : Below W.heap.size W W') : OfB w W' A n c l := ⟨h.dg.here hb, h.byt.below hb h.here.size, Below.onR h.here hb⟩
theorem OfB.drew {w W : World} {A : Option Addr} {n c : Nat} {l : List UInt8} (h : OfB w W A n c l) : OfB w W.drew A n c l := ⟨h.dg, h.byt.drew, h.here.drew⟩
theorem OfB.start (w : World) {A : Option Addr} {n c : Nat} {l : List UInt8} (hb : Byt w w.heap.size A n c l) : OfB w (w.alloc (.cells (u8s noDigest) 23)) A n c l :=
  ⟨BlkIs.new _ _ _, hb.alloc (Nat.le_refl _) _, (Below.refl _ _).alloc (Nat.le_refl _) _⟩
/-- Behind the two tables. -/
structure OfT (w W : World) (b : Nat) (A : Option Addr) (n c : Nat) (l : List UInt8) : Prop where
  ob : OfB w W A n c l
  kk : BlkIs W b 31 (u32s K0)
  s : BlkIs W (b + 1) 29 (u32s H0)
  far : w.heap.size < b
theorem OfT.below {w W W' : World} {b : Nat} {A : Option Addr} {n c : Nat} {l : List UInt8} (h : OfT w W b A n c l) (hb : Below W.heap.size W W') : OfT w W' b A n c l := ⟨h.ob.below hb, h.kk.here hb, h.s.here hb, h.far⟩
theorem OfT.grown {w W W' : World} {b : Nat} {A : Option Addr} {n c : Nat} {l : List UInt8} (h : OfT w W b A n c l) {A2 : Option Addr} {n2 c2 : Nat} {l2 : List UInt8} (ho : Own W w.heap.size A2 n2 c2 l2) (hg : W.grownBy W' (Value.slice A2 n2 c2).ownBlock) : OfT w W' b A n c l :=
  ⟨⟨h.ob.dg.grown hg (BlkIs.own_ne h.ob.dg (by decide) ho).symm, h.ob.byt.below ((Below.refl _ _).grown hg h.ob.here.size fun k hk => (World.ownsRow.lt ho k hk).1) (Nat.le_refl _), h.ob.here.grown hg h.ob.here.size fun k hk => (World.ownsRow.lt ho k hk).1⟩,
    h.kk.grown hg (BlkIs.own_ne h.kk (by decide) ho).symm, h.s.grown hg (BlkIs.own_ne h.s (by decide) ho).symm, h.far⟩
/-- What the walk over the blocks keeps. -/
structure OfM (w W : World) (b : Nat) (A : Option Addr) (P c : Nat) (L : List UInt8) (k : Nat) : Prop where
  dg : BlkIs W w.heap.size 23 (u8s noDigest)
  kk : BlkIs W b 31 (u32s K0)
  s : BlkIs W (b + 1) 29 (u32s (stAt L k))
  own : Own W w.heap.size A P c L
  here : Below w.heap.size w W
  far : w.heap.size < b
theorem OfM.below {w W W' : World} {b : Nat} {A : Option Addr} {P c : Nat} {L : List UInt8} {k : Nat} (h : OfM w W b A P c L k) (hb : Below W.heap.size W W') : OfM w W' b A P c L k := ⟨h.dg.here hb, h.kk.here hb, h.s.here hb, h.own.below hb, Below.onR h.here hb, h.far⟩
theorem OfM.drew {w W : World} {b : Nat} {A : Option Addr} {P c : Nat} {L : List UInt8} {k : Nat} (h : OfM w W b A P c L k) : OfM w W.drew b A P c L k := ⟨h.dg, h.kk, h.s, h.own, h.here.drew, h.far⟩
theorem OfM.setRow {w W : World} {b : Nat} {A : Option Addr} {P c : Nat} {L : List UInt8} {k : Nat} (h : OfM w W b A P c L k) (k' : Nat) : OfM w (W.setRow (b + 1) (u32s (stAt L k'))) b A P c L k' := by
  have G := grown_setRow W (b + 1) (u32s (stAt L k'))
  have hf := h.far
  exact ⟨h.dg.grown G (by intro e; injection e with e; omega), h.kk.grown G (by intro e; injection e with e; omega), heap_setRow_same h.s _, Own.grown h.own G (.inr (BlkIs.own_ne h.s (by decide) h.own)), h.here.grown G h.here.size (by intro q hq; injection hq with hq; omega), h.far⟩
theorem stAt_succ' (L : List UInt8) (k j : Nat) (hj : j = 64 * k) (h : j + 64 ≤ L.length) : mixedN (stAt L k) (nums ((L.take (j + 64)).drop j)) K0 = stAt L (k + 1) := by
  subst hj
  exact (stAt_succ L k (by omega)).symm

set_option maxRecDepth 100000 in
set_option maxHeartbeats 20000000 in
theorem rof_any (w : World) (n c : Nat) (A : Option Addr) (l : List UInt8) (hb : Byt w w.heap.size A n c l) (hn : n ≤ 1099511627776) :
    Calls Tryd.prog 16 #[.slice A n c] w fun e w' => e = .returned (.agg (u8s (ofN l))) ∧ Below w.heap.size w w' := by
  have hle := hb.le
  have hcap := hb.cap
  unfold maxLen at hcap
  have Hob := Lib.hid (OfB.start w hb)
  have Hln := Lib.hid (show l.length = n from hb.len)
  clear hb
  go_enter Tryd.func16, Tryd.ntmps16
  go_upto_region 1 with fail
  rw [← zerosN]
  generalize w.alloc (.cells (u8s noDigest) 23) = W0 at *
  go_wp2_with fail
  refine (rconst_any W0).mono ?_
  rintro e w1 ⟨rfl, hb1⟩
  have Ob1 := Lib.hid (Hob.out.below hb1)
  clear hb1 Hob
  go_wp2_with fail
  refine (rbegin_any w1).mono ?_
  rintro e w2 ⟨rfl, hb2⟩
  have Ob2 := Lib.hid (Ob1.out.below hb2)
  clear hb2 Ob1
  have ha1 : Below w2.heap.size w2 (w2.alloc (.cells (u32s (filled K0 0)) 31)) := (Below.refl _ _).alloc (Nat.le_refl _) _
  have ha2 : Below (w2.alloc (.cells (u32s (filled K0 0)) 31)).heap.size (w2.alloc (.cells (u32s (filled K0 0)) 31)) ((w2.alloc (.cells (u32s (filled K0 0)) 31)).alloc (.cells (u32s (filled H0 0)) 29)) := (Below.refl _ _).alloc (Nat.le_refl _) _
  have hob4 := (Ob2.out.below ha1).below ha2
  have hk4 := (BlkIs.new w2 31 (u32s (filled K0 0))).here ha2
  have hs4 : BlkIs ((w2.alloc (.cells (u32s (filled K0 0)) 31)).alloc (.cells (u32s (filled H0 0)) 29)) (w2.heap.size + 1) 29 (u32s (filled H0 0)) := by
    simpa using BlkIs.new (w2.alloc (.cells (u32s (filled K0 0)) 31)) 29 (u32s (filled H0 0))
  have hw2 : w.heap.size < w2.heap.size := Ob2.out.dg.lt
  have HK4 := Lib.hid hk4
  have h08 : (u32s H0).size = 8 := by rw [u32s_size, H0_length]
  have hz8 : (u32s (filled H0 0)).size = 8 := by rw [zeros8]; rfl
  have hk64 : (u32s K0).size = 64 := by rw [u32s_size, K0_length]
  have hz64 : (u32s (filled K0 0)).size = 64 := by rw [zeros64]; rfl
  have G5 := grown_setRow ((w2.alloc (.cells (u32s (filled K0 0)) 31)).alloc (.cells (u32s (filled H0 0)) 29)) w2.heap.size (u32s K0)
  have G6 := grown_setRow (((w2.alloc (.cells (u32s (filled K0 0)) 31)).alloc (.cells (u32s (filled H0 0)) 29)).setRow w2.heap.size (u32s K0)) (w2.heap.size + 1) (u32s H0)
  have hs5 := hs4.grown G5 (by intro e; injection e with e; omega)
  have hk6 := (heap_setRow_same hk4 (u32s K0)).grown G6 (by intro e; injection e with e; omega)
  have hs6 := heap_setRow_same hs5 (u32s H0)
  have HS5 := Lib.hid hs5
  have hbw : Below w2.heap.size ((w2.alloc (.cells (u32s (filled K0 0)) 31)).alloc (.cells (u32s (filled H0 0)) 29)) ((((w2.alloc (.cells (u32s (filled K0 0)) 31)).alloc (.cells (u32s (filled H0 0)) 29)).setRow w2.heap.size (u32s K0)).setRow (w2.heap.size + 1) (u32s H0)) :=
    ((Below.refl _ _).grown G5 (by simp; omega) (by intro q hq; injection hq with hq; omega)).grown G6 (by have := G5.size; simp at this ⊢; omega) (by intro q hq; injection hq with hq; omega)
  have Ot := Lib.hid (OfT.mk (b := w2.heap.size) ⟨hob4.dg.below hbw hw2, hob4.byt.below hbw (Nat.le_of_lt hw2), hob4.here.trans (hbw.mono (Nat.le_of_lt hw2))⟩ hk6 hs6 hw2)
  have H08 := Lib.hid h08
  have Hz8 := Lib.hid hz8
  have Hk64 := Lib.hid hk64
  have Hz64 := Lib.hid hz64
  clear ha1 ha2 hob4 hk4 hs4 G5 G6 hs5 hk6 hs6 hbw Ob2 h08 hz8 hk64 hz64
  go_upto_region 2 with (first
    | (rw [← zeros64, ← zeros8]; refine wp_store_blk rfl 31 (.tmp 3) (.tmp 9) rfl w2.heap.size rfl (u32s K0) rfl HK4.out (by rw [info64, Hk64.out]) (by rw [Hz64.out, Hk64.out]) (u32s_one _) ?_)
    | (refine wp_store_blk rfl 29 (.tmp 4) (.tmp 10) rfl (w2.heap.size + 1) rfl (u32s H0) rfl HS5.out (by rw [info8, H08.out]) (by rw [Hz8.out, H08.out]) (u32s_one _) ?_)
    | fail)
  clear HK4 HS5 H08 Hz8 Hk64 Hz64
  generalize (((w2.alloc (.cells (u32s (filled K0 0)) 31)).alloc (.cells (u32s (filled H0 0)) 29)).setRow w2.heap.size (u32s K0)).setRow (w2.heap.size + 1) (u32s H0) = w6 at *
  obtain ⟨b, hbe⟩ : ∃ b, w2.heap.size = b := ⟨_, rfl⟩
  rw [hbe] at Ot hw2 ⊢
  clear hbe
  have hal : Below w6.heap.size w6 (w6.alloc (.cells #[] 5)) := (Below.refl _ _).alloc (Nat.le_refl _) _
  have Ot7 := Lib.hid (Ot.out.below hal)
  have ho7 : Own (w6.alloc (.cells #[] 5)) w.heap.size (some ⟨w6.heap.size, 0, none⟩) 0 0 [] := (Own.lit w6 #[] [] rfl (Nat.zero_le _)).more Ot.out.ob.here.size
  have HO7 := Lib.hid ho7
  clear hal ho7 Ot
  go_wp2_with (at_builtin
               refine wpList_byte_append rfl (.tmp 11) (.tmp 12) rfl w.heap.size _ 0 0 [] rfl HO7.out w.heap.size _ n c l rfl Ot7.out.ob.byt (by omega) Ot7.out.ob.here.size ?_
               intro A8 c8 w8 ho8 hg8 ha8
               have Ot8 := Lib.hid (OfT.grown Ot7.out HO7.out hg8)
               have O8 := Lib.hid ho8
               clear ho8 hg8 ha8)
  clear Ot7 HO7
  rw [Nat.zero_add, List.nil_append] at O8
  try rw [Nat.zero_add]
  refine (rpad_any w8 n n (by omega) (by split <;> omega)).mono ?_
  rintro e w9 ⟨A9, c9, rfl, ho9, hb9⟩
  have Ot9 := Lib.hid (Ot8.out.below hb9)
  have O9 := Lib.hid (O8.out.below hb9)
  have P9 := Lib.hid ho9
  have hz : zerosOf n < 64 := Nat.mod_lt _ (by omega)
  have hq : (n + (1 + zerosOf n + 8)) % 64 = 0 := by unfold zerosOf; omega
  clear ho9 hb9 Ot8 O8
  go_upto_region 3 with (at_builtin
                         refine wpList_byte_append rfl (.tmp 13) (.tmp 16) rfl w.heap.size A8 n c8 l rfl O9.out w9.heap.size _ (1 + zerosOf n + 8) c9 (padU n) rfl P9.out.byt (by omega) Ot9.out.ob.here.size ?_
                         intro A4 c4 w4 ho4 hg4 ha4
                         have O4 := Lib.hid ho4
                         have Ot4 := Lib.hid (OfT.grown Ot9.out O9.out hg4)
                         clear ho4 hg4 ha4)
  clear P9 O9 Ot9
  obtain ⟨P, hP⟩ : ∃ P, n + (1 + zerosOf n + 8) = P := ⟨_, rfl⟩
  obtain ⟨L, hL⟩ : ∃ L, l ++ padU n = L := ⟨_, rfl⟩
  rw [hP, hL] at O4
  rw [hP] at hq ⊢
  have HL := Lib.hid hL
  obtain ⟨q, hPq⟩ : ∃ q, P = 64 * q := ⟨P / 64, by omega⟩
  have Hq := Lib.hid hPq
  have hPle : P ≤ 1099511627860 := by omega
  have hM0 : OfM w w4 b A4 P c4 L 0 := ⟨Ot4.out.ob.dg, Ot4.out.kk, by rw [stAt_zero]; exact Ot4.out.s, O4.out, Ot4.out.ob.here, Ot4.out.far⟩
  have HM0 := Lib.hid hM0
  have HP9 : Hid (0 < P) := by unfold Hid; omega
  have hc4 : P ≤ c4 := O4.out.byt.le
  have hc4m := O4.out.byt.cap
  unfold maxLen at hc4m
  clear hP hL hz hq hPq hM0 Ot4 O4 hw2
  go_wp2
  go_loopw [6] (fun x wr => ∃ (k j : Nat), x = .int .i64 j ∧ j = 64 * k ∧ k ≤ q ∧ OfM w wr b A4 P c4 L k) (fun x _ => P - (intOf x).toNat)
  case atStart => exact ⟨0, 0, rfl, rfl, Nat.zero_le _, HM0.out⟩
  case round =>
    obtain ⟨k, j, rfl, hj, hk, hrel⟩ := hrel
    have Hrel := Lib.hid hrel
    have Hj := Lib.hid hj
    clear hrel hj HM0
    by_cases hlt : j < P
    · have hk1 : k < q := by have := Hq.out; have := Hj.out; omega
      have hjP : j + 64 ≤ P := by have := Hq.out; have := Hj.out; omega
      have d3 : decide ((j : Int) < P) = true := by simp; omega
      obtain ⟨ga, rfl, -, -⟩ := Hrel.out.own.block (by omega)
      have Hst := Lib.hid (stAt_succ' L k j Hj.out (by rw [Hrel.out.own.len]; exact hjP))
      have Hdr := Lib.hid Hrel.out.drew
      have hs8a : Hid ((u32s (stAt L k)).size = 8) := by unfold Hid; rw [u32s_size, stAt_length]
      have hs8b : Hid ((u32s (stAt L (k + 1))).size = 8) := by unfold Hid; rw [u32s_size, stAt_length]
      have hk64 : Hid ((u32s K0).size = 64) := by unfold Hid; rw [u32s_size, K0_length]
      have Hbt : ∀ W : World, Byt W W.heap.size (some ⟨ga, 0, none⟩) P c4 L → Byt W W.heap.size (some ⟨ga, j, none⟩) 64 (c4 - j) ((L.take (j + 64)).drop j) := fun W h => by
        have := h.cut (lo := j) (hi := j + 64) (by omega) hjP
        rw [if_neg (by omega)] at this
        simpa [add_plain, show j + 64 - j = 64 by omega] using this
      have HBt := Lib.hid Hbt
      have i0 : (j : Int) + 64 ≤ P := by omega
      have i1 : (P : Int) ≤ c4 := by omega
      have i2 : (0 : Int) ≤ j := by omega
      have i3 : ¬ (c4 : Int) = j := by omega
      have i4 : ¬ c4 = j := by omega
      have Hw64 := Lib.hid (show IntKind.i64.wrap ((j : Int) + 64) = (j : Int) + 64 by simp [IntKind.wrap, IntKind.bits, IntKind.signed]; omega)
      have He64 := Lib.hid (show ((j : Int) + 64).toNat - j = 64 by omega)
      clear Hbt Hrel
      go_upto_region 6 with fail
      refine wp_region_held_drew (S := fun W => W.rangeAt b 0 (u32s K0).toList) (by kernel_rfl) Hdr.out.kk.range (fun hHeld => ?_)
      change wpAnyH _ _ _ _ _ 9 (Array.replicate 9 false) _ _
      refine wpAnyH_take (i := 0) (oi := { dst := some 24, op := Op.load 31 (Operand.tmp 3), type := 31, pos := "ref.go:124", after := #[], guard := none }) rfl (by kernel_rfl) (by kernel_rfl) (by kernel_rfl) (fun _ _ _ h => h) (yieldsIf_load_mid (by rfl) 31 (.tmp 3) rfl b 0 rfl (u32s K0).toList _ (fun _ h => h) Tryd.underlying31 rfl (by rw [info64, Array.length_toList, hk64.out])) hHeld ?rest0
      try simp only [Act.put, List.setIfInBounds_toArray, List.set_cons_zero, List.set_cons_succ]
      refine wpAnyH_take (i := 2) (oi := { dst := some 26, op := Op.move (Operand.tmp 5), type := 33, pos := "ref.go:124", after := #[], guard := none }) (v := ?v2) rfl (by kernel_rfl) (by kernel_rfl) (by kernel_rfl) (fun _ _ _ h => h) (Or.inl ⟨by rfl, ?hy2⟩) hHeld ?rest2
      case hy2 =>
        intro W hSw
        go_simp
        try with_reducible rfl
      try simp only [Act.put, List.setIfInBounds_toArray, List.set_cons_zero, List.set_cons_succ]
      refine wpAnyH_take (i := 3) (oi := { dst := some 27, op := Op.move (Operand.tmp 6), type := 3, pos := "ref.go:124", after := #[], guard := none }) (v := ?v3) rfl (by kernel_rfl) (by kernel_rfl) (by kernel_rfl) (fun _ _ _ h => h) (Or.inl ⟨by rfl, ?hy3⟩) hHeld ?rest3
      case hy3 =>
        intro W hSw
        go_simp
        try with_reducible rfl
      try simp only [Act.put, List.setIfInBounds_toArray, List.set_cons_zero, List.set_cons_succ]
      refine wpAnyH_take (i := 4) (oi := { dst := some 28, op := Op.move (Operand.tmp 6), type := 3, pos := "ref.go:124", after := #[], guard := none }) (v := ?v4) rfl (by kernel_rfl) (by kernel_rfl) (by kernel_rfl) (fun _ _ _ h => h) (Or.inl ⟨by rfl, ?hy4⟩) hHeld ?rest4
      case hy4 =>
        intro W hSw
        go_simp
        try with_reducible rfl
      try simp only [Act.put, List.setIfInBounds_toArray, List.set_cons_zero, List.set_cons_succ]
      refine wpAnyH_take (i := 5) (oi := { dst := some 29, op := Op.binOp BinOp.add 3 (Operand.tmp 28) (Operand.const (Value.int IntKind.i64 64)) 3, type := 3, pos := "ref.go:124", after := #[{ on := 4, ground := Ground.data }], guard := none }) (v := ?v5) rfl (by kernel_rfl) (by kernel_rfl) (by kernel_rfl) (fun _ _ _ h => h) (Or.inl ⟨by rfl, ?hy5⟩) hHeld ?rest5
      case hy5 =>
        intro W hSw
        go_simp
        rw [Hw64.out]
        try with_reducible rfl
      try simp only [Act.put, List.setIfInBounds_toArray, List.set_cons_zero, List.set_cons_succ]
      refine wpAnyH_take (i := 6) (oi := { dst := some 30, op := Op.slice 33 (Operand.tmp 26) (some (Operand.tmp 27)) (some (Operand.tmp 29)) none, type := 33, pos := "ref.go:124", after := #[{ on := 2, ground := Ground.data }, { on := 3, ground := Ground.data }, { on := 5, ground := Ground.data }], guard := none }) (v := ?v6) rfl (by kernel_rfl) (by kernel_rfl) (by kernel_rfl) (fun _ _ _ h => h) (Or.inl ⟨by rfl, ?hy6⟩) hHeld ?rest6
      case hy6 =>
        intro W hSw
        go_simp
        try rw [if_pos (by omega)]
        try rw [if_pos (by omega)]
        try with_reducible rfl
      try simp only [Act.put, List.setIfInBounds_toArray, List.set_cons_zero, List.set_cons_succ]
      rw [He64.out]
      refine wpAnyH_ready (rs := [1]) (by kernel_rfl) (by simp) ?_
      refine AllReadyH.cons (o := { dst := some 25, op := Op.load 29 (Operand.tmp 4), type := 29, pos := "ref.go:124", after := #[], guard := none }) rfl (fun K' hK => ?_) AllReadyH.nil
      refine wp_load_row 29 (.tmp 4) rfl (b + 1) rfl 29 (u32s (stAt L k)) (0, 0) _ Hdr.out.s Tryd.underlying29 rfl (by rw [info8, hs8a.out]) ?_
      refine hK.out _ _ Hdr.out.kk.range (fun hHeld => ?_)
      clear hK K'
      try simp only [Act.put, List.setIfInBounds_toArray, List.set_cons_zero, List.set_cons_succ]
      refine wpAnyH_ready (rs := [7]) (by kernel_rfl) (by simp) ?_
      refine AllReadyH.cons (o := { dst := some 31, op := Op.call { callee := Callee.value (Operand.func 38), args := #[Operand.tmp 24, Operand.tmp 25, Operand.tmp 30], argTypes := #[31, 29, 33] }, type := 29, pos := "ref.go:124", after := #[{ on := 0, ground := Ground.data }, { on := 1, ground := Ground.data }, { on := 6, ground := Ground.data }], guard := none }) rfl (fun K' hK => ?_) AllReadyH.nil
      go_simp
      refine (rblock_any wr.drew K0 (stAt L k) (some ⟨ga, j, none⟩) (c4 - j) ((L.take (j + 64)).drop j) K0_length K0_words (stAt_length L k) (stAt_words L k) (HBt.out _ Hdr.out.own.byt)).mono ?_
      rintro e w7 ⟨rfl, hb7⟩
      have M7 := Lib.hid (Hdr.out.below hb7)
      clear hb7
      rw [Hst.out]
      show K' _ w7
      refine hK.out _ _ M7.out.kk.range (fun hHeld => ?_)
      clear hK K'
      try simp only [Act.put, List.setIfInBounds_toArray, List.set_cons_zero, List.set_cons_succ]
      refine wpAnyH_ready (rs := [8]) (by kernel_rfl) (by simp) ?_
      refine AllReadyH.cons (o := { dst := none, op := Op.store 29 (Operand.tmp 4) (Operand.tmp 31), type := 0, pos := "ref.go:124", after := #[{ on := 7, ground := Ground.data }, { on := 7, ground := Ground.chain }, { on := 0, ground := Ground.phase }, { on := 1, ground := Ground.phase }, { on := 2, ground := Ground.phase }, { on := 3, ground := Ground.phase }, { on := 4, ground := Ground.phase }, { on := 5, ground := Ground.phase }, { on := 6, ground := Ground.phase }, { on := 7, ground := Ground.phase }], guard := none }) rfl (fun K' hK => ?_) AllReadyH.nil
      rw [if_pos (by rfl)]
      refine wp_store_row 29 (.tmp 4) (.tmp 31) rfl (b + 1) rfl (u32s (stAt L (k + 1))) rfl M7.out.s (by rw [info8, hs8b.out]) (by rw [hs8a.out, hs8b.out]) (u32s_one _) ?_
      have M8 := Lib.hid (M7.out.setRow (k + 1))
      refine hK.out _ _ M8.out.kk.range (fun hHeld => ?_)
      clear hK K'
      try simp only [Act.put]
      refine wpAnyH_done (by kernel_rfl) ?_ _
      clear hHeld i0 i1 hjP
      go_wp2
      go_roundw
      case rel => exact ⟨k + 1, j + 64, by congr 1, by have := Hj.out; omega, by omega, M8.out⟩
      case measure => simp [intOf]; omega
    · have hkq : k = q := by have := Hq.out; have := Hj.out; omega
      subst hkq
      have hjP : j = P := by have := Hq.out; have := Hj.out; omega
      subst hjP
      have d3 : decide ((j : Int) < j) = false := by simp
      have hend := steps_end l k (by rw [Hln.out, HL.out, Hrel.out.own.len]; exact Hj.out.symm)
      rw [Hln.out, HL.out] at hend
      have hlen32 : (dgN (stAt L k)).length = 32 := dgN_length _
      have hf0 : noDigest = filled (dgN (stAt L k)) 0 := by rw [filled_zero, hlen32]; rfl
      have Hlen := Lib.hid hlen32
      have Hend := Lib.hid hend
      have hal : Below wr.heap.size wr (wr.alloc (.cells (u8s noDigest) 23)) := (Below.refl _ _).alloc (Nat.le_refl _) _
      have hnew : BlkIs (wr.alloc (.cells (u8s noDigest) 23)) wr.heap.size 23 (u8s (filled (dgN (stAt L k)) 0)) := by rw [← hf0]; exact BlkIs.new _ _ _
      have hM := Hrel.out.below hal
      have hgx : b + 1 < wr.heap.size := Hrel.out.s.lt
      have hgw := Hrel.out.far
      have Hnew := Lib.hid hnew
      have HM := Lib.hid hM
      clear hend hlen32 hf0 hal hnew hM Hrel HL Hj Hq Hln
      go_upto_region 8 with fail
      rw [← zerosN]
      generalize wr.alloc (.cells (u8s noDigest) 23) = w7 at *
      generalize wr.heap.size = nd at *
      have hs8 : (stAt L k).length = 8 := stAt_length L k
      have Hdg := Lib.hid HM.out.dg
      have Hst0 := Lib.hid HM.out.s
      have Hbl0 := Lib.hid HM.out.here
      clear HM
      generalize stAt L k = st at *
      have Hs8 := Lib.hid hs8
      clear hs8 d3 hc4 hc4m hPle hk hlt
      go_wp2
      go_loopw [8] (fun x W => ∃ i : Nat, x = .int .i64 i ∧ i ≤ 32 ∧ BlkIs W (b + 1) 29 (u32s st) ∧ BlkIs W w.heap.size 23 (u8s noDigest) ∧ BlkIs W nd 23 (u8s (filled (dgN st) i)) ∧ Below w.heap.size w W) (fun x _ => 32 - (intOf x).toNat)
      case atStart => exact ⟨0, rfl, by omega, Hst0.out, Hdg.out, Hnew.out, Hbl0.out⟩
      case round =>
        obtain ⟨i, rfl, hi, hs0, hr0, hd, hbb⟩ := hrel
        have HS := Lib.hid hs0
        have HR := Lib.hid hr0
        have HD := Lib.hid hd
        have HB := Lib.hid hbb
        clear Hst0 Hdg Hnew Hbl0 hbb hr0
        by_cases hlt : i < 32
        · have c0 : wr.cell? ⟨b + 1, i / 4, none⟩ = some (.int .u32 (st.getD (i / 4) 0 : Nat)) := by rw [hs0.cell]; exact u32s_get _ _ (by rw [Hs8.out]; omega)
          have c1 : wr.cell? ⟨nd, i, none⟩ = some (.int .u8 ((filled (dgN st) i).getD i 0 : Nat)) := by rw [hd.cell]; exact u8s_get _ _ (by rw [filled_length _ _ (by rw [Hlen.out]; omega), Hlen.out]; exact hlt)
          have f1 := hd.frozen i
          have hset := filled_set (dgN st) i (by rw [Hlen.out]; exact hlt)
          rw [dgN_at st i hlt, dgAt] at hset
          obtain ⟨sh, hsh⟩ : ∃ sh : Nat, 24 - i % 4 * 8 = sh := ⟨_, rfl⟩
          rw [hsh] at hset
          have es : 24 - 8 * ((i : Int) % 4) = (sh : Int) := by omega
          have hsh24 : sh ≤ 24 := by omega
          generalize st.getD (i / 4) 0 = x at *
          have hv : (x : Int) / 2 ^ sh % 256 = ((x / 2 ^ sh % 256 : Nat) : Int) := by
            have ep : ((2 ^ sh : Nat) : Int) = (2 : Int) ^ sh := by simp
            rw [← ep, ← Int.natCast_ediv]
            generalize x / 2 ^ sh = q
            omega
          have Hset := Lib.hid hset
          have Hv := Lib.hid hv
          have i1 : (i : Int) < 32 := by omega
          have i0 : (0 : Int) ≤ i := by omega
          have i8 : (i : Int) / 4 < 8 := by omega
          clear hs0 hd hset hsh hv
          go_wp2
          go_roundw
          case rel =>
            have hs := HD.out.set i (.int .u8 ((x / 2 ^ sh % 256 : Nat) : Int))
            rw [u8s_set, Hset.out, ← Hv.out] at hs
            have hgr := grown_set wr nd i (.int .u8 ((x : Int) / 2 ^ sh % 256))
            exact ⟨i + 1, by go_num, by omega, HS.out.grown hgr (by simp; omega), HR.out.grown hgr (by simp; omega), hs, HB.out.grown hgr HB.out.size (by intro q hq; injection hq with hq; omega)⟩
          case measure => simp [intOf]; omega
        · obtain rfl : i = 32 := by omega
          have hfe : filled (dgN st) 32 = dgN st := by
            have := filled_end (dgN st)
            rwa [Hlen.out] at this
          rw [hfe, Hend.out] at HD
          rw [Hend.out] at Hlen
          have hs1 : (u8s (ofN l)).size = 32 := by rw [u8s_size, Hlen.out]
          have hs0' : (u8s noDigest).size = 32 := by rw [u8s_size, noDigest_length]
          have Hs1 := Lib.hid hs1
          have Hs0 := Lib.hid hs0'
          clear hfe Hend HS hs0 hd hi hlt Hs8 hs1 hs0'
          go_wp2_with (first
            | (refine wpList_load_row rfl 23 (.tmp 7) rfl nd rfl 23 (u8s (ofN l)) (0, 0) _ HD.out Tryd.underlying23 rfl (by rw [info32, Hs1.out]) ?_)
            | (refine wp_store_blk rfl 23 (.tmp 2) (.tmp 49) rfl w.heap.size rfl (u8s (ofN l)) rfl HR.out (by rw [info32, Hs1.out]) (by rw [Hs0.out, Hs1.out]) (u8s_one _) ?_))
          refine bodyPost_ret (results_cell_row rfl _ _ w.heap.size 23 (u8s (ofN l)) (0, 0) _ rfl (heap_setRow_same HR.out _) Tryd.underlying23 rfl (by rw [info32, Hs1.out])) rfl ?_
          exact ⟨rfl, HB.out.grown (grown_setRow _ _ _) HB.out.size (by intro q hq; injection hq with hq; omega)⟩
end Go.Proofs.YtpgjnmakpghamaaDoor

/- The walk of the law DigestSteps. -/
import Derived.Test.YtpgjnmakpghamaaDoorDgStepsPure
namespace Go.Proofs.YtpgjnmakpghamaaDoor
open Go.RowKit
set_option linter.unusedVariables false

/-- No block. -/
def noBlock : List Nat := List.replicate 64 0
theorem zeros64b : u8s noBlock = #[.int .u8 0, .int .u8 0, .int .u8 0, .int .u8 0, .int .u8 0, .int .u8 0, .int .u8 0, .int .u8 0, .int .u8 0, .int .u8 0, .int .u8 0, .int .u8 0, .int .u8 0, .int .u8 0, .int .u8 0, .int .u8 0, .int .u8 0, .int .u8 0, .int .u8 0, .int .u8 0, .int .u8 0, .int .u8 0, .int .u8 0, .int .u8 0, .int .u8 0, .int .u8 0, .int .u8 0, .int .u8 0, .int .u8 0, .int .u8 0, .int .u8 0, .int .u8 0, .int .u8 0, .int .u8 0, .int .u8 0, .int .u8 0, .int .u8 0, .int .u8 0, .int .u8 0, .int .u8 0, .int .u8 0, .int .u8 0, .int .u8 0, .int .u8 0, .int .u8 0, .int .u8 0, .int .u8 0, .int .u8 0, .int .u8 0, .int .u8 0, .int .u8 0, .int .u8 0, .int .u8 0, .int .u8 0, .int .u8 0, .int .u8 0, .int .u8 0, .int .u8 0, .int .u8 0, .int .u8 0, .int .u8 0, .int .u8 0, .int .u8 0, .int .u8 0] := rfl
theorem noBlock_length : noBlock.length = 64 := rfl
/-- What the walk over the blocks keeps. -/
structure LRel (w wr : World) (g : Nat) (A : Option Addr) (P c : Nat) (L : List UInt8) (k : Nat) : Prop where
  s : BlkIs wr g 29 (u32s (stAt L k))
  own : Own wr w.heap.size A P c L
  here : Below w.heap.size w wr
/-- The digest wanted lies in block nd. -/
structure DKeep (w wr : World) (nd : Nat) (Dg : List Nat) : Prop where
  dg : BlkIs wr nd 23 (u8s Dg)
  here : Below w.heap.size w wr
theorem DKeep.reads {w wr : World} {nd : Nat} {Dg : List Nat} (h : DKeep w wr nd Dg) : wr.rangeAt nd 0 (u8s Dg).toList := h.dg.range
theorem DKeep.below {w wr w' : World} {nd : Nat} {Dg : List Nat} (h : DKeep w wr nd Dg) (hb : Below wr.heap.size wr w') : DKeep w w' nd Dg := ⟨h.dg.here hb, Below.onR h.here hb⟩
/-- The hash in block g has taken in the bytes l; the digest wanted lies in block nd. -/
structure SRel (w wr : World) (g nd : Nat) (Dg : List Nat) (l : List UInt8) : Prop where
  msg : MsgAt wr g 71 made (absorbs msg0 (nums l))
  keep : DKeep w wr nd Dg
theorem SRel.below {w wr w' : World} {g nd : Nat} {Dg : List Nat} {l : List UInt8} (h : SRel w wr g nd Dg l) (hb : Below wr.heap.size wr w') : SRel w w' g nd Dg l := ⟨h.msg.here hb, h.keep.below hb⟩
theorem SRel.drew {w wr : World} {g nd : Nat} {Dg : List Nat} {l : List UInt8} (h : SRel w wr g nd Dg l) : SRel w wr.drew g nd Dg l := ⟨⟨h.msg.blk, h.msg.hs, h.msg.hr, h.msg.sw, h.msg.rb⟩, ⟨h.keep.dg, h.keep.here.drew⟩⟩
theorem SRel.grown {w wr w' : World} {g nd : Nat} {Dg : List Nat} {l r : List UInt8} (h : SRel w wr g nd Dg l) (hm : MsgAt w' g 71 made (absorbs (absorbs msg0 (nums l)) (nums r))) (hg : wr.grownBy w' (some g)) (hnd : nd < g) (hw : w.heap.size ≤ g) : SRel w w' g nd Dg (l ++ r) :=
  ⟨by rw [nums_append, absorbs_append]; exact hm, ⟨h.keep.dg.grown hg (by intro e; injection e with e; omega), h.keep.here.grown hg h.keep.here.size (by intro q hq; injection hq with hq; omega)⟩⟩
theorem take_grow (l : List UInt8) (a k : Nat) (h : a ≤ k) : l.take a ++ (l.take k).drop a = l.take k := by
  have := List.take_append_drop a (l.take k)
  rwa [List.take_take, Nat.min_eq_left h] at this
theorem Own.drew {w : World} {B n c : Nat} {A : Option Addr} {l : List UInt8} (h : Own w B A n c l) : Own w.drew B A n c l := h
theorem tail_apart {P : Nat} {c i : Nat} (h : i < P) (hc : P ≤ c) : ¬ c = i := by omega

set_option maxRecDepth 100000 in
set_option maxHeartbeats 20000000 in
theorem steps_any (w : World) (hp : Primes w) (n c nc cc : Nat) (A Ac : Option Addr) (l : List UInt8) (hb : Byt w w.heap.size A n c l) (hcu : Nums w Ac nc cc) :
    Calls Tryd.prog 7 #[.slice A n c, .slice Ac nc cc] w (LivesPost w) := by
  have hle := hb.le
  have hcap := hb.cap
  have hle2 := hcu.le
  have hcap2 := hcu.cap
  unfold maxLen at hcap hcap2
  have Hp := Lib.hid hp
  have Hb := Lib.hid hb
  have Hcu := Lib.hid hcu
  have Hl := Lib.hid (lives_any w hp)
  clear hp hb hcu
  by_cases hn : 2000 < n
  · have d1 : decide ((2000 : Int) < n) = true := by simp; omega
    go_enter Tryd.func7, Tryd.ntmps7
    go_wp2_with fail
    refine Hl.out.mono ?_
    rintro e w1 ⟨rfl, hb1⟩
    go_wp2
    go_ret
    exact ⟨rfl, hb1⟩
  have d1 : decide ((2000 : Int) < n) = false := by simp; omega
  by_cases hnc : 40 < nc
  · have d2 : decide ((40 : Int) < nc) = true := by simp; omega
    go_enter Tryd.func7, Tryd.ntmps7
    go_wp2_with fail
    refine Hl.out.mono ?_
    rintro e w1 ⟨rfl, hb1⟩
    go_wp2
    go_ret
    exact ⟨rfl, hb1⟩
  have d2 : decide ((40 : Int) < nc) = false := by simp; omega
  go_enter Tryd.func7, Tryd.ntmps7
  go_wp2_with fail
  refine Hl.out.mono ?_
  rintro e w1 ⟨rfl, hb1⟩
  have B1 := Lib.hid hb1
  clear hb1 Hl
  go_wp2_with fail
  refine (own_any w1 w.heap.size n c A l (Hb.out.same B1.out) B1.out.size (by omega)).mono ?_
  rintro e w2 ⟨A2, c2, rfl, ho2, -, hb2⟩
  have O2 := Lib.hid (ho2.more B1.out.size : Own w2 w.heap.size A2 n c2 l)
  have B2 := Lib.hid (Below.onR B1.out hb2)
  clear ho2 hb2 B1
  go_wp2_with fail
  refine (pad_any w2 n (by omega)).mono ?_
  rintro e w3 ⟨A3, c3, rfl, ho3, hb3⟩
  have O3 := Lib.hid ho3
  have P3 := Lib.hid (O2.out.below hb3)
  have B3 := Lib.hid (Below.onR B2.out hb3)
  have hz64 : zerosOf n < 64 := Nat.mod_lt _ (by omega)
  have hq : (n + (1 + zerosOf n + 8)) % 64 = 0 := by unfold zerosOf; omega
  have hln : l.length = n := Hb.out.len
  clear ho3 hb3 O2 B2
  go_upto_region 6 with (at_builtin
                         refine wpList_byte_append rfl (.tmp 26) (.tmp 29) rfl w.heap.size A2 n c2 l rfl P3.out w3.heap.size _ (1 + zerosOf n + 8) c3 (padU n) rfl O3.out.byt (by omega) B3.out.size ?_
                         intro A4 c4 w4 ho4 hg4 ha4
                         have O4 := Lib.hid ho4
                         have B4 := Lib.hid (B3.out.grown hg4 B3.out.size fun k hk => (World.ownsRow.lt P3.out k hk).1)
                         clear ho4 hg4 ha4)
  clear P3 O3 B3
  obtain ⟨P, hP⟩ : ∃ P, n + (1 + zerosOf n + 8) = P := ⟨_, rfl⟩
  obtain ⟨L, hL⟩ : ∃ L, l ++ padU n = L := ⟨_, rfl⟩
  rw [hP, hL] at O4
  rw [hP] at hq ⊢
  have HL := Lib.hid hL
  have hP9 : 9 ≤ P := by omega
  have hPle : P ≤ 2080 := by omega
  obtain ⟨q, hPq⟩ : ∃ q, P = 64 * q := ⟨P / 64, by omega⟩
  have Hq := Lib.hid hPq
  have hmod : (P : Int) % 64 = 0 := by omega
  have HPn : Hid (n < P) := by unfold Hid; omega
  clear hL hP hz64 hq hPq
  go_wp2_with fail
  clear hmod
  refine (begin_any w4 (Hp.out.here B4.out)).mono ?_
  rintro e w5 ⟨rfl, hb5⟩
  have O5 := Lib.hid (O4.out.below hb5)
  have B5 := Lib.hid (Below.onR B4.out hb5)
  clear hb5 O4 B4
  have hal : Below w5.heap.size w5 (w5.alloc (.cells (u32s (filled H0 0)) 29)) := (Below.refl _ _).alloc (Nat.le_refl _) _
  have hnew := BlkIs.new w5 29 (u32s (filled H0 0))
  have Hnew := Lib.hid hnew
  have hg6 := B5.out.size
  have H08 : Hid ((u32s H0).size = 8) := by unfold Hid; rw [u32s_size, H0_length]
  have Hz8 : Hid ((u32s (filled H0 0)).size = 8) := by unfold Hid; rw [zeros8]; rfl
  have G6 := Lib.hid (grown_setRow (w5.alloc (.cells (u32s (filled H0 0)) 29)) w5.heap.size (u32s H0))
  have hL6 : LRel w ((w5.alloc (.cells (u32s (filled H0 0)) 29)).setRow w5.heap.size (u32s H0)) w5.heap.size A4 P c4 L 0 := by
    have ho := O5.out.below hal
    refine ⟨?_, ho.grown G6.out (.inr (BlkIs.own_ne hnew (by decide) ho)), (Below.onR B5.out hal).grown G6.out (Below.onR B5.out hal).size (by intro q hq; injection hq with hq; omega)⟩
    rw [stAt_zero]
    exact heap_setRow_same hnew _
  have HL6 := Lib.hid hL6
  clear hal hnew hL6 O5
  go_upto_region 9 with (rw [← zeros8]; refine wp_store_blk rfl 29 (.tmp 6) (.tmp 35) rfl w5.heap.size rfl (u32s H0) rfl Hnew.out (by rw [info8, H08.out]) (by rw [Hz8.out, H08.out]) (u32s_one _) ?_)
  clear Hnew G6 B5 H08 Hz8
  generalize (w5.alloc (.cells (u32s (filled H0 0)) 29)).setRow w5.heap.size (u32s H0) = w6 at *
  generalize w5.heap.size = g6 at *
  have Hg6 := Lib.hid hg6
  have hn2 : n ≤ 2000 := by omega
  clear hg6 d1 d2 hn
  go_wp2
  go_loopw [7] (fun x wr => ∃ (k j : Nat), x = .int .i64 j ∧ j = 64 * k ∧ k ≤ q ∧ LRel w wr g6 A4 P c4 L k) (fun x _ => P - (intOf x).toNat)
  case atStart => exact ⟨0, 0, rfl, rfl, Nat.zero_le _, HL6.out⟩
  case round =>
    obtain ⟨k, j, rfl, hj, hk, hrel⟩ := hrel
    have Hrel := Lib.hid hrel
    have Hj := Lib.hid hj
    clear hrel hj HL6
    by_cases hlt : j < P
    · have hk1 : k < q := by have := Hq.out; have := Hj.out; omega
      have hjP : j + 64 ≤ P := by have := Hq.out; have := Hj.out; omega
      have d3 : decide ((j : Int) < P) = true := by simp; omega
      have hal : Below wr.heap.size wr (wr.alloc (.cells (u8s noBlock) 35)) := (Below.refl _ _).alloc (Nat.le_refl _) _
      have hnew := BlkIs.new wr 35 (u8s noBlock)
      have Hnew := Lib.hid hnew
      have Hrel7 := Lib.hid (LRel.mk (Hrel.out.s.here hal) (Hrel.out.own.below hal) (Below.onR Hrel.out.here hal))
      clear hal hnew
      obtain ⟨ga, rfl, -, -⟩ := Hrel7.out.own.block (by omega)
      go_upto_region 13 with fail
      rw [← zeros64b]
      obtain ⟨gx, hgx⟩ : ∃ gx, wr.heap.size = gx := ⟨_, rfl⟩
      have hgxg : g6 < gx := by rw [← hgx]; exact Hrel.out.s.lt
      have hgxw : w.heap.size ≤ gx := by rw [← hgx]; exact Hrel.out.here.size
      rw [hgx] at Hnew ⊢
      clear Hrel hgx
      generalize wr.alloc (.cells (u8s noBlock) 35) = w7 at *
      have hc4 : P ≤ c4 := Hrel7.out.own.byt.le
      have hbl : Byt w7.drew w7.heap.size (some ⟨ga, j, none⟩) 64 (c4 - j) ((L.take (j + 64)).drop j) := by
        have := Hrel7.out.own.byt.drew.cut (lo := j) (hi := j + 64) (by omega) hjP
        rw [if_neg (by omega)] at this
        simpa [add_plain, show j + 64 - j = 64 by omega] using this
      have hcp := run_copy_64 (w := w7.drew) (g := gx) (t := 35) Hnew.out noBlock_length hbl 3
      obtain ⟨hs8, hg8⟩ := blk_setCells (g := gx) (t := 35) (nums ((L.take (j + 64)).drop j)) w7.drew noBlock 0 Hnew.out
      have hnl : (nums ((L.take (j + 64)).drop j)).length = 64 := by rw [nums_length, hbl.len]
      rw [putAll_full _ _ 0 (by rw [noBlock_length, hnl]), List.take_zero, List.nil_append] at hs8
      have hrel8 : LRel w (w7.drew.setCells gx 0 ((nums ((L.take (j + 64)).drop j)).map fun x : Nat => Value.int .u8 (x : Int))) g6 (some ⟨ga, 0, none⟩) P c4 L k :=
        ⟨BlkIs.grown (w := w7.drew) Hrel7.out.s hg8 (by simp; omega), Own.grown (w := w7.drew) Hrel7.out.own hg8 (.inr (BlkIs.own_ne (w := w7.drew) Hnew.out (by decide) Hrel7.out.own)), Hrel7.out.here.drew.grown hg8 Hrel7.out.here.size (by intro q hq; injection hq with hq; omega)⟩
      have Hs8 := Lib.hid hs8
      have Hrel8 := Lib.hid hrel8
      have Hnl := Lib.hid hnl
      have Hnb := Lib.hid (nums_bytes ((L.take (j + 64)).drop j))
      obtain ⟨W8, hW8⟩ : ∃ W8, w7.drew.setCells gx 0 ((nums ((L.take (j + 64)).drop j)).map fun x : Nat => Value.int .u8 (x : Int)) = W8 := ⟨_, rfl⟩
      rw [hW8] at hcp Hs8 Hrel8
      have i0 : (j : Int) + 64 ≤ P := by omega
      have i1 : (P : Int) ≤ c4 := by omega
      have i2 : (0 : Int) ≤ j := by omega
      clear hs8 hg8 hrel8 hnl hbl hW8 Hnew Hrel7
      go_region
      have hst := stAt_succ L k (by have := Hrel8.out.own.len; have := Hq.out; omega)
      rw [← Hj.out] at hst
      have Hst := Lib.hid hst
      have hs8a : Hid ((u32s (stAt L k)).size = 8) := by unfold Hid; rw [u32s_size, stAt_length]
      have hs8b : Hid ((u32s (stAt L (k + 1))).size = 8) := by unfold Hid; rw [u32s_size, stAt_length]
      have hs64 : Hid ((u8s (nums ((L.take (j + 64)).drop j))).size = 64) := by unfold Hid; rw [u8s_size, Hnl.out]
      clear hst hcp i0 i1 i2 hc4 hjP
      generalize nums ((L.take (j + 64)).drop j) = X at *
      go_wp2_with (first
        | (refine wpList_load_row rfl 29 (.tmp 6) rfl g6 rfl 29 (u32s (stAt L k)) (0, 0) _ Hrel8.out.s Tryd.underlying29 rfl (by rw [info8, hs8a.out]) ?_)
        | (refine wpList_load_row rfl 35 (.tmp 8) rfl gx rfl 35 (u8s X) (0, 0) _ Hs8.out Tryd.underlying35 rfl (by rw [info64b, hs64.out]) ?_))
      refine (block_any W8 (Hp.out.here Hrel8.out.here) (stAt L k) X (stAt_length L k) (stAt_words L k) Hnl.out Hnb.out).mono ?_
      rintro e w9 ⟨rfl, hb9⟩
      rw [← Hst.out]
      have Hrel9 := Lib.hid (LRel.mk (Hrel8.out.s.here hb9) (Hrel8.out.own.below hb9) (Below.onR Hrel8.out.here hb9))
      clear hb9 Hrel8 Hs8
      have G9 := Lib.hid (grown_setRow w9 g6 (u32s (stAt L (k + 1))))
      have hrel10 : LRel w (w9.setRow g6 (u32s (stAt L (k + 1)))) g6 (some ⟨ga, 0, none⟩) P c4 L (k + 1) :=
        ⟨heap_setRow_same Hrel9.out.s _, Own.grown Hrel9.out.own G9.out (.inr (BlkIs.own_ne Hrel9.out.s (by decide) Hrel9.out.own)), Hrel9.out.here.grown G9.out Hrel9.out.here.size (by intro q hq; injection hq with hq; have := Hg6.out; omega)⟩
      have Hrel10 := Lib.hid hrel10
      clear hrel10 G9
      go_wp2_with (refine wp_store_blk rfl 29 (.tmp 6) (.tmp 51) rfl g6 rfl (u32s (stAt L (k + 1))) rfl Hrel9.out.s (by rw [info8, hs8b.out]) (by rw [hs8a.out, hs8b.out]) (u32s_one _) ?_)
      go_roundw
      case rel => exact ⟨k + 1, j + 64, by congr 1, by have := Hj.out; omega, by omega, Hrel10.out⟩
      case measure => simp [intOf]; omega
    · have hkq : k = q := by have := Hq.out; have := Hj.out; omega
      subst hkq
      have hjP : j = P := by have := Hq.out; have := Hj.out; omega
      subst hjP
      have d3 : decide ((j : Int) < j) = false := by simp
      have hend := steps_end l k (by rw [hln, HL.out, Hrel.out.own.len]; exact Hj.out.symm)
      rw [hln, HL.out] at hend
      have hlen32 : (dgN (stAt L k)).length = 32 := dgN_length _
      have hf0 : noDigest = filled (dgN (stAt L k)) 0 := by rw [filled_zero, hlen32]; rfl
      have Hlen := Lib.hid hlen32
      have Hend := Lib.hid hend
      have hal : Below wr.heap.size wr (wr.alloc (.cells (u8s noDigest) 23)) := (Below.refl _ _).alloc (Nat.le_refl _) _
      have hnew : BlkIs (wr.alloc (.cells (u8s noDigest) 23)) wr.heap.size 23 (u8s (filled (dgN (stAt L k)) 0)) := by rw [← hf0]; exact BlkIs.new _ _ _
      have hst0 : BlkIs (wr.alloc (.cells (u8s noDigest) 23)) g6 29 (u32s (stAt L k)) := Hrel.out.s.here hal
      have hbl0 := Below.onR Hrel.out.here hal
      have hgx : g6 < wr.heap.size := Hrel.out.s.lt
      have hgw := Hrel.out.here.size
      have Hnew := Lib.hid hnew
      have Hst0 := Lib.hid hst0
      have Hbl0 := Lib.hid hbl0
      clear hend hlen32 hf0 hal hnew hst0 hbl0 Hrel HL Hj Hq hln
      go_upto_region 16 with fail
      rw [← zerosN]
      generalize wr.alloc (.cells (u8s noDigest) 23) = w7 at *
      generalize wr.heap.size = nd at *
      have Hs8 : Hid ((stAt L k).length = 8) := stAt_length L k
      generalize stAt L k = st at *
      go_wp2
      go_loopw [10] (fun x W => ∃ i : Nat, x = .int .i64 i ∧ i ≤ 32 ∧ BlkIs W g6 29 (u32s st) ∧ BlkIs W nd 23 (u8s (filled (dgN st) i)) ∧ Below w.heap.size w W) (fun x _ => 32 - (intOf x).toNat)
      case atStart => exact ⟨0, rfl, by omega, Hst0.out, Hnew.out, Hbl0.out⟩
      case round =>
        obtain ⟨i, rfl, hi, hs0, hd, hbb⟩ := hrel
        have HS := Lib.hid hs0
        have HD := Lib.hid hd
        have HB := Lib.hid hbb
        clear Hst0 Hnew Hbl0 hbb
        by_cases hlt : i < 32
        · have c0 : wr.cell? ⟨g6, i / 4, none⟩ = some (.int .u32 (st.getD (i / 4) 0 : Nat)) := by rw [hs0.cell]; exact u32s_get _ _ (by rw [Hs8.out]; omega)
          have c1 : wr.cell? ⟨nd, i, none⟩ = some (.int .u8 ((filled (dgN st) i).getD i 0 : Nat)) := by rw [hd.cell]; exact u8s_get _ _ (by rw [filled_length _ _ (by rw [Hlen.out]; omega), Hlen.out]; exact hlt)
          have f1 := hd.frozen i
          have hset := filled_set (dgN st) i (by rw [Hlen.out]; exact hlt)
          rw [dgN_at st i hlt, dgAt] at hset
          obtain ⟨sh, hsh⟩ : ∃ sh : Nat, 24 - i % 4 * 8 = sh := ⟨_, rfl⟩
          rw [hsh] at hset
          have es : 8 * (3 - (i : Int) % 4) = (sh : Int) := by omega
          have hsh24 : sh ≤ 24 := by omega
          generalize st.getD (i / 4) 0 = x at *
          have hv : (x : Int) / 2 ^ sh % 256 = ((x / 2 ^ sh % 256 : Nat) : Int) := by
            have ep : ((2 ^ sh : Nat) : Int) = (2 : Int) ^ sh := by simp
            rw [← ep, ← Int.natCast_ediv]
            generalize x / 2 ^ sh = q
            omega
          have Hset := Lib.hid hset
          have Hv := Lib.hid hv
          have i1 : (i : Int) < 32 := by omega
          have i0 : (0 : Int) ≤ i := by omega
          have i8 : (i : Int) / 4 < 8 := by omega
          clear hs0 hd hset hsh hv
          go_wp2
          go_roundw
          case rel =>
            have hs := HD.out.set i (.int .u8 ((x / 2 ^ sh % 256 : Nat) : Int))
            rw [u8s_set, Hset.out, ← Hv.out] at hs
            have hgr := grown_set wr nd i (.int .u8 ((x : Int) / 2 ^ sh % 256))
            exact ⟨i + 1, by go_num, by omega, HS.out.grown hgr (by simp; omega), hs, HB.out.grown hgr HB.out.size (by intro q hq; injection hq with hq; omega)⟩
          case measure => simp [intOf]; omega
        · obtain rfl : i = 32 := by omega
          have hfe : filled (dgN st) 32 = dgN st := by
            have := filled_end (dgN st)
            rwa [Hlen.out] at this
          rw [hfe, Hend.out] at HD
          rw [Hend.out] at Hlen
          clear hfe Hend HS hs0 hd hi hlt Hs8
          go_upto_region 20 with fail
          obtain ⟨Dg, hDg⟩ : ∃ Dg, ofN l = Dg := ⟨_, rfl⟩
          rw [hDg] at HD Hlen
          have heq := fun W => run_equal_digest W Dg Hlen.out
          have HDg := Lib.hid hDg
          have Hsz : Hid ((u8s Dg).size = 32) := by unfold Hid; rw [u8s_size, Hlen.out]
          have hln : l.length = n := Hb.out.len
          have Hln := Lib.hid hln
          have hkeep : DKeep w wr.drew nd Dg := ⟨HD.out, HB.out.drew⟩
          have HK := Lib.hid hkeep
          have Hnd := Lib.hid hgw
          clear hDg hln HD HB hkeep d3 hgw
          refine wp_region_held_drew (S := fun W => W.rangeAt nd 0 (u8s Dg).toList) (by kernel_rfl) HK.out.reads (fun hHeld => ?_)
          change wpAnyH _ _ _ _ _ 5 (Array.replicate 5 false) _ _
          refine wpAnyH_take (i := 0) (oi := { dst := some 69, op := Op.move (Operand.tmp 0), type := 33, pos := "law.go:115", after := #[], guard := none }) (v := ?v0) rfl (by kernel_rfl) (by kernel_rfl) (by kernel_rfl) (fun _ _ _ h => h) (Or.inl ⟨by rfl, ?hy0⟩) hHeld ?rest0
          case hy0 =>
            intro W hSw
            go_simp
            try with_reducible rfl
          try simp only [Act.put, List.setIfInBounds_toArray, List.set_cons_zero, List.set_cons_succ]
          refine wpAnyH_take (i := 3) (oi := { dst := some 72, op := Op.load 23 (Operand.tmp 9), type := 23, pos := "law.go:115", after := #[], guard := none }) rfl (by kernel_rfl) (by kernel_rfl) (by kernel_rfl) (fun _ _ _ h => h) (yieldsIf_load_mid (by rfl) 23 (.tmp 9) rfl nd 0 rfl (u8s Dg).toList _ (fun _ h => h) Tryd.underlying23 rfl (by rw [info32, Array.length_toList, Hsz.out])) hHeld ?rest3
          try simp only [Act.put, List.setIfInBounds_toArray, List.set_cons_zero, List.set_cons_succ]
          refine wpAnyH_ready (rs := [1]) (by kernel_rfl) (by simp) ?_
          refine AllReadyH.cons (o := { dst := some 70, op := Op.call { callee := Callee.value (Operand.func 15), args := #[Operand.tmp 69], argTypes := #[33] }, type := 33, pos := "law.go:115", after := #[{ on := 0, ground := Ground.data }], guard := none }) rfl (fun K' hK => ?_) AllReadyH.nil
          go_simp
          refine (own_any wr.drew w.heap.size n c A l (Hb.out.same HK.out.here) HK.out.here.size (by omega)).mono ?_
          rintro e w8 ⟨A8, c8, rfl, ho8, -, hb8⟩
          have HK8 := Lib.hid (HK.out.below hb8)
          have O8 := Lib.hid ho8
          clear hb8 ho8
          go_wp2_with fail
          refine hK.out _ _ HK8.out.reads (fun hHeld => ?_)
          clear hK K'
          try simp only [Act.put, List.setIfInBounds_toArray, List.set_cons_zero, List.set_cons_succ]
          refine wpAnyH_ready (rs := [2]) (by kernel_rfl) (by simp) ?_
          refine AllReadyH.cons (o := { dst := some 71, op := Op.call { callee := Callee.value (Operand.func 14), args := #[Operand.tmp 70], argTypes := #[33] }, type := 23, pos := "law.go:115", after := #[{ on := 1, ground := Ground.data }, { on := 1, ground := Ground.chain }], guard := none }) rfl (fun K' hK => ?_) AllReadyH.nil
          go_simp
          refine (of_is w8 (Hp.out.here HK8.out.here) n c8 A8 l Dg O8.out.byt (by omega) HDg.out).mono ?_
          rintro e w9 ⟨rfl, hb9⟩
          have HK9 := Lib.hid (HK8.out.below hb9)
          clear hb9
          go_wp2_with fail
          refine hK.out _ _ HK9.out.reads (fun hHeld => ?_)
          clear hK K'
          try simp only [Act.put, List.setIfInBounds_toArray, List.set_cons_zero, List.set_cons_succ]
          refine wpAnyH_take (i := 4) (oi := { dst := some 73, op := Op.binOp BinOp.neq 23 (Operand.tmp 71) (Operand.tmp 72) 23, type := 4, pos := "law.go:115", after := #[{ on := 2, ground := Ground.data }, { on := 3, ground := Ground.data }], guard := none }) (v := ?v4) rfl (by kernel_rfl) (by kernel_rfl) (by kernel_rfl) (fun _ _ _ h => h) (Or.inl ⟨by rfl, ?hy4⟩) hHeld ?rest4
          case hy4 =>
            intro W hSw
            go_simp
            try with_reducible rfl
          try simp only [Act.put, List.setIfInBounds_toArray, List.set_cons_zero, List.set_cons_succ]
          refine wpAnyH_done (by kernel_rfl) ?_ _
          clear hHeld
          go_wp2_with fail
          refine (new_any w9 (Hp.out.here HK9.out.here)).mono ?_
          rintro e w10 ⟨g, rfl, hm10, hg10, hb10⟩
          have hndg : nd < g := Nat.lt_of_lt_of_le HK9.out.dg.lt hg10
          have hwg : w.heap.size ≤ g := by have := Hnd.out; omega
          have hg0 : g ≠ 0 := by omega
          have hst : SRel w w10 g nd Dg (l.take 0) := ⟨hm10, HK9.out.below hb10⟩
          have Hndg := Lib.hid hndg
          have Hwg := Lib.hid hwg
          have Hg0 := Lib.hid hg0
          have Hst := Lib.hid hst
          clear hm10 hg10 hb10 hndg hwg hg0 hst HK HK8 HK9 O8 Hg6
          go_wp2
          go_loopw [12, 13] (fun y x W => ∃ (a i : Nat), y = .int .i64 a ∧ x = .int .i64 i ∧ a ≤ n ∧ i ≤ nc ∧ SRel w W g nd Dg (l.take a)) (fun _ x _ => nc - (intOf x).toNat)
          case atStart => exact ⟨0, 0, rfl, rfl, Nat.zero_le _, Nat.zero_le _, Hst.out⟩
          case round =>
            obtain ⟨a, i, rfl, rfl, ha, hi, hrel⟩ := hrel
            have Hrel := Lib.hid hrel
            clear hrel Hst
            by_cases hlt : i < nc
            · have d3 : decide ((i : Int) < nc) = true := by simp; omega
              obtain ⟨bc, oc, rfl, hbc, hcs⟩ := Hcu.out.lies (by omega)
              obtain ⟨z, hz, hz1, hz2⟩ := hcs i hlt
              have hzr := (Hrel.out.keep.here.cell (p := ⟨bc, oc + i, none⟩) hbc).trans hz
              clear hz hcs
              go_wp2_with fail
              refine (pick_any z ((n : Int) - a + 1) wr (by omega) (by omega) hz1 hz2).mono ?_
              rintro e w' ⟨rfl, rfl⟩
              have hp0 := pickOf_lo z ((n : Int) - a + 1) (by omega)
              have hp1 := pickOf_hi z ((n : Int) - a + 1) (by omega)
              generalize pickOf z ((n : Int) - a + 1) = pk at *
              obtain ⟨kk, hkk⟩ : ∃ kk : Nat, (a : Int) + pk = (kk : Int) := ⟨((a : Int) + pk).toNat, by omega⟩
              have hak : a ≤ kk := by omega
              have hkn : kk ≤ n := by omega
              have hw1 : IntKind.i64.wrap ((a : Int) + pk) = (kk : Int) := by rw [hkk]; exact IntWalk.i64_in _ (by omega)
              go_upto_region 28 with fail
              try rw [hkk]
              clear hw1 hkk hp0 hp1 hzr hz1 hz2
              have R0 := Lib.hid Hrel.out.drew
              have hcut := ((Hb.out.same R0.out.keep.here).cut hak hkn)
              have Hcut := Lib.hid hcut
              have hupto := ((Hb.out.same R0.out.keep.here).upto hkn)
              have Hupto := Lib.hid hupto
              have hkc : (kk : Int) ≤ c := by omega
              have hak2 : (a : Int) ≤ kk := by omega
              have ha0 : (0 : Int) ≤ a := by omega
              clear hcut hupto Hrel
              refine wp_region_held_drew (S := fun _ => True) (by kernel_rfl) trivial (fun hHeld => ?_)
              change wpAnyH _ _ _ _ _ 24 (Array.replicate 24 false) _ _
              refine wpAnyH_take (i := 0) (oi := { dst := some 93, op := Op.move (Operand.tmp 11), type := 41, pos := "law.go:122", after := #[], guard := none }) (v := ?vb0) rfl (by kernel_rfl) (by kernel_rfl) (by kernel_rfl) (fun _ _ _ h => h) (Or.inl ⟨by rfl, ?hyb0⟩) hHeld ?restb0
              case hyb0 =>
                intro W hSw
                go_simp
                try with_reducible rfl
              try simp only [Act.put, List.setIfInBounds_toArray, List.set_cons_zero, List.set_cons_succ]
              refine wpAnyH_take (i := 1) (oi := { dst := some 94, op := Op.move (Operand.tmp 0), type := 33, pos := "law.go:122", after := #[], guard := none }) (v := ?vb1) rfl (by kernel_rfl) (by kernel_rfl) (by kernel_rfl) (fun _ _ _ h => h) (Or.inl ⟨by rfl, ?hyb1⟩) hHeld ?restb1
              case hyb1 =>
                intro W hSw
                go_simp
                try with_reducible rfl
              try simp only [Act.put, List.setIfInBounds_toArray, List.set_cons_zero, List.set_cons_succ]
              refine wpAnyH_take (i := 2) (oi := { dst := some 95, op := Op.move (Operand.tmp 12), type := 3, pos := "law.go:122", after := #[], guard := none }) (v := ?vb2) rfl (by kernel_rfl) (by kernel_rfl) (by kernel_rfl) (fun _ _ _ h => h) (Or.inl ⟨by rfl, ?hyb2⟩) hHeld ?restb2
              case hyb2 =>
                intro W hSw
                go_simp
                try with_reducible rfl
              try simp only [Act.put, List.setIfInBounds_toArray, List.set_cons_zero, List.set_cons_succ]
              refine wpAnyH_take (i := 3) (oi := { dst := some 96, op := Op.move (Operand.tmp 14), type := 3, pos := "law.go:122", after := #[], guard := none }) (v := ?vb3) rfl (by kernel_rfl) (by kernel_rfl) (by kernel_rfl) (fun _ _ _ h => h) (Or.inl ⟨by rfl, ?hyb3⟩) hHeld ?restb3
              case hyb3 =>
                intro W hSw
                go_simp
                try with_reducible rfl
              try simp only [Act.put, List.setIfInBounds_toArray, List.set_cons_zero, List.set_cons_succ]
              refine wpAnyH_take (i := 4) (oi := { dst := some 97, op := Op.slice 33 (Operand.tmp 94) (some (Operand.tmp 95)) (some (Operand.tmp 96)) none, type := 33, pos := "law.go:122", after := #[{ on := 1, ground := Ground.data }, { on := 2, ground := Ground.data }, { on := 3, ground := Ground.data }], guard := none }) (v := ?vb4) rfl (by kernel_rfl) (by kernel_rfl) (by kernel_rfl) (fun _ _ _ h => h) (Or.inl ⟨by rfl, ?hyb4⟩) hHeld ?restb4
              case hyb4 =>
                intro W hSw
                go_simp
                try with_reducible rfl
              try simp only [Act.put, List.setIfInBounds_toArray, List.set_cons_zero, List.set_cons_succ]
              generalize (if c = a then A else Option.map (fun x => x.add a) A) = As at *
              refine wpAnyH_ready (rs := [5]) (by kernel_rfl) (by simp) ?_
              refine AllReadyH.cons (o := { dst := some 98, op := Op.call { callee := Callee.value (Operand.func 15), args := #[Operand.tmp 97], argTypes := #[33] }, type := 33, pos := "law.go:122", after := #[{ on := 4, ground := Ground.data }], guard := none }) rfl (fun K' hK => ?_) AllReadyH.nil
              go_simp
              refine (own_any wr.drew w.heap.size (kk - a) (c - a) _ _ Hcut.out R0.out.keep.here.size (by omega)).mono ?_
              rintro e w11 ⟨A11, c11, rfl, ho11, -, hb11⟩
              have S11 := Lib.hid (ho11.src R0.out.msg.blk.lt)
              have R11 := Lib.hid (R0.out.below hb11)
              clear ho11 hb11
              go_wp2_with fail
              refine hK.out _ _ trivial (fun hHeld => ?_)
              clear hK K'
              try simp only [Act.put, List.setIfInBounds_toArray, List.set_cons_zero, List.set_cons_succ]
              refine wpAnyH_ready (rs := [6]) (by kernel_rfl) (by simp) ?_
              refine AllReadyH.cons (o := { dst := some 99, op := Op.call { callee := Callee.value (Operand.func 24), args := #[Operand.tmp 93, Operand.tmp 98], argTypes := #[41, 33] }, type := 24, pos := "law.go:122", after := #[{ on := 0, ground := Ground.data }, { on := 5, ground := Ground.data }, { on := 5, ground := Ground.chain }], guard := none }) rfl (fun K' hK => ?_) AllReadyH.nil
              go_simp
              refine (write_any w11 (Hp.out.here R11.out.keep.here) g _ R11.out.msg Hg0.out (kk - a) c11 A11 _ S11.out (by
                rw [absorbs_n, nums_length, List.length_take]
                show 0 + _ + _ ≤ _
                omega)).mono ?_
              rintro e w12 ⟨rfl, hm12, hg12⟩
              have hr12 := R11.out.grown hm12 hg12 Hndg.out Hwg.out
              rw [take_grow l a kk hak] at hr12
              have R12 := Lib.hid hr12
              clear hm12 hg12 hr12 S11
              obtain ⟨Dk, hDk⟩ : ∃ Dk, ofN (l.take kk) = Dk := ⟨_, rfl⟩
              have HDk := Lib.hid hDk
              have heqk := fun W => run_equal_digest W Dk (hDk ▸ ofN_length _)
              clear hDk
              go_wp2_with fail
              refine hK.out _ _ trivial (fun hHeld => ?_)
              clear hK K'
              try simp only [Act.put, List.setIfInBounds_toArray, List.set_cons_zero, List.set_cons_succ]
              refine wpAnyH_take (i := 7) (oi := { dst := some 100, op := Op.binOp BinOp.neq 24 (Operand.tmp 99) (Operand.const (Value.int IntKind.i64 0)) 24, type := 4, pos := "law.go:122", after := #[{ on := 6, ground := Ground.data }], guard := none }) (v := ?vb7) rfl (by kernel_rfl) (by kernel_rfl) (by kernel_rfl) (fun _ _ _ h => h) (Or.inl ⟨by rfl, ?hyb7⟩) hHeld ?restb7
              case hyb7 =>
                intro W hSw
                go_simp
                try with_reducible rfl
              try simp only [Act.put, List.setIfInBounds_toArray, List.set_cons_zero, List.set_cons_succ]
              refine wpAnyH_take (i := 8) (oi := { dst := some 101, op := Op.move (Operand.tmp 100), type := 4, pos := "law.go:122", after := #[{ on := 7, ground := Ground.data }, { on := 6, ground := Ground.chain }], guard := none }) (v := ?vb8) rfl (by kernel_rfl) (by kernel_rfl) (by kernel_rfl) (fun _ _ _ h => h) (Or.inl ⟨by rfl, ?hyb8⟩) hHeld ?restb8
              case hyb8 =>
                intro W hSw
                go_simp
                try with_reducible rfl
              try simp only [Act.put, List.setIfInBounds_toArray, List.set_cons_zero, List.set_cons_succ]
              refine wpAnyH_take (i := 9) (oi := { dst := some 102, op := Op.move (Operand.tmp 11), type := 41, pos := "law.go:122", after := #[{ on := 8, ground := Ground.guard }], guard := some (8, false) }) (v := ?vb9) rfl (by kernel_rfl) (by kernel_rfl) (by kernel_rfl) (fun _ _ _ h => h) (Or.inl ⟨by rfl, ?hyb9⟩) hHeld ?restb9
              case hyb9 =>
                intro W hSw
                go_simp
                try with_reducible rfl
              try simp only [Act.put, List.setIfInBounds_toArray, List.set_cons_zero, List.set_cons_succ]
              refine wpAnyH_take (i := 11) (oi := { dst := some 104, op := Op.move (Operand.tmp 0), type := 33, pos := "law.go:122", after := #[{ on := 8, ground := Ground.guard }], guard := some (8, false) }) (v := ?vb11) rfl (by kernel_rfl) (by kernel_rfl) (by kernel_rfl) (fun _ _ _ h => h) (Or.inl ⟨by rfl, ?hyb11⟩) hHeld ?restb11
              case hyb11 =>
                intro W hSw
                go_simp
                try with_reducible rfl
              try simp only [Act.put, List.setIfInBounds_toArray, List.set_cons_zero, List.set_cons_succ]
              refine wpAnyH_take (i := 12) (oi := { dst := some 105, op := Op.move (Operand.tmp 14), type := 3, pos := "law.go:122", after := #[{ on := 8, ground := Ground.guard }], guard := some (8, false) }) (v := ?vb12) rfl (by kernel_rfl) (by kernel_rfl) (by kernel_rfl) (fun _ _ _ h => h) (Or.inl ⟨by rfl, ?hyb12⟩) hHeld ?restb12
              case hyb12 =>
                intro W hSw
                go_simp
                try with_reducible rfl
              try simp only [Act.put, List.setIfInBounds_toArray, List.set_cons_zero, List.set_cons_succ]
              refine wpAnyH_take (i := 13) (oi := { dst := some 106, op := Op.slice 33 (Operand.tmp 104) none (some (Operand.tmp 105)) none, type := 33, pos := "law.go:122", after := #[{ on := 11, ground := Ground.data }, { on := 12, ground := Ground.data }, { on := 8, ground := Ground.guard }], guard := some (8, false) }) (v := ?vb13) rfl (by kernel_rfl) (by kernel_rfl) (by kernel_rfl) (fun _ _ _ h => h) (Or.inl ⟨by rfl, ?hyb13⟩) hHeld ?restb13
              case hyb13 =>
                intro W hSw
                go_simp
                try with_reducible rfl
              try simp only [Act.put, List.setIfInBounds_toArray, List.set_cons_zero, List.set_cons_succ]
              refine wpAnyH_ready (rs := [10]) (by kernel_rfl) (by simp) ?_
              refine AllReadyH.cons (o := { dst := some 103, op := Op.call { callee := Callee.value (Operand.func 25), args := #[Operand.tmp 102], argTypes := #[41] }, type := 23, pos := "law.go:122", after := #[{ on := 9, ground := Ground.data }, { on := 8, ground := Ground.chain }, { on := 8, ground := Ground.guard }], guard := some (8, false) }) rfl (fun K' hK => ?_) AllReadyH.nil
              go_simp
              refine (sum_is w12 (Hp.out.here R12.out.keep.here) g _ Dk R12.out.msg (by rw [List.length_take]; omega) HDk.out).mono ?_
              rintro e w13 ⟨rfl, hb13⟩
              have R13 := Lib.hid (R12.out.below hb13)
              clear hb13
              go_wp2_with fail
              refine hK.out _ _ trivial (fun hHeld => ?_)
              clear hK K'
              try simp only [Act.put, List.setIfInBounds_toArray, List.set_cons_zero, List.set_cons_succ]
              refine wpAnyH_ready (rs := [14]) (by kernel_rfl) (by simp) ?_
              refine AllReadyH.cons (o := { dst := some 107, op := Op.call { callee := Callee.value (Operand.func 15), args := #[Operand.tmp 106], argTypes := #[33] }, type := 33, pos := "law.go:122", after := #[{ on := 13, ground := Ground.data }, { on := 10, ground := Ground.chain }, { on := 8, ground := Ground.guard }], guard := some (8, false) }) rfl (fun K' hK => ?_) AllReadyH.nil
              go_simp
              refine (own_any w13 w.heap.size kk c A (l.take kk) ((Hb.out.same R13.out.keep.here).upto hkn) R13.out.keep.here.size (by omega)).mono ?_
              rintro e w14 ⟨A14, c14, rfl, ho14, -, hb14⟩
              have O14 := Lib.hid ho14
              have R14 := Lib.hid (R13.out.below hb14)
              clear ho14 hb14
              go_wp2_with fail
              refine hK.out _ _ trivial (fun hHeld => ?_)
              clear hK K'
              try simp only [Act.put, List.setIfInBounds_toArray, List.set_cons_zero, List.set_cons_succ]
              refine wpAnyH_ready (rs := [15]) (by kernel_rfl) (by simp) ?_
              refine AllReadyH.cons (o := { dst := some 108, op := Op.call { callee := Callee.value (Operand.func 14), args := #[Operand.tmp 107], argTypes := #[33] }, type := 23, pos := "law.go:122", after := #[{ on := 14, ground := Ground.data }, { on := 14, ground := Ground.chain }, { on := 8, ground := Ground.guard }], guard := some (8, false) }) rfl (fun K' hK => ?_) AllReadyH.nil
              go_simp
              refine (of_is w14 (Hp.out.here R14.out.keep.here) kk c14 A14 _ Dk O14.out.byt (by omega) HDk.out).mono ?_
              rintro e w15 ⟨rfl, hb15⟩
              have R15 := Lib.hid (R14.out.below hb15)
              clear hb15
              go_wp2_with fail
              refine hK.out _ _ trivial (fun hHeld => ?_)
              clear hK K'
              try simp only [Act.put, List.setIfInBounds_toArray, List.set_cons_zero, List.set_cons_succ]
              refine wpAnyH_take (i := 16) (oi := { dst := some 109, op := Op.binOp BinOp.neq 23 (Operand.tmp 103) (Operand.tmp 108) 23, type := 4, pos := "law.go:122", after := #[{ on := 10, ground := Ground.data }, { on := 15, ground := Ground.data }, { on := 8, ground := Ground.guard }], guard := some (8, false) }) (v := ?vb16) rfl (by kernel_rfl) (by kernel_rfl) (by kernel_rfl) (fun _ _ _ h => h) (Or.inl ⟨by rfl, ?hyb16⟩) hHeld ?restb16
              case hyb16 =>
                intro W hSw
                go_simp
                try with_reducible rfl
              try simp only [Act.put, List.setIfInBounds_toArray, List.set_cons_zero, List.set_cons_succ]
              refine wpAnyH_take (i := 17) (oi := { dst := some 110, op := Op.pick (Operand.tmp 101) (Operand.const (Value.bool true)) (Operand.tmp 109), type := 4, pos := "law.go:122", after := #[{ on := 8, ground := Ground.data }, { on := 16, ground := Ground.data }], guard := none }) (v := ?vb17) rfl (by kernel_rfl) (by kernel_rfl) (by kernel_rfl) (fun _ _ _ h => h) (Or.inl ⟨by rfl, ?hyb17⟩) hHeld ?restb17
              case hyb17 =>
                intro W hSw
                go_simp
                try with_reducible rfl
              try simp only [Act.put, List.setIfInBounds_toArray, List.set_cons_zero, List.set_cons_succ]
              refine wpAnyH_take (i := 18) (oi := { dst := some 111, op := Op.move (Operand.tmp 110), type := 4, pos := "law.go:122", after := #[{ on := 17, ground := Ground.data }, { on := 15, ground := Ground.chain }], guard := none }) (v := ?vb18) rfl (by kernel_rfl) (by kernel_rfl) (by kernel_rfl) (fun _ _ _ h => h) (Or.inl ⟨by rfl, ?hyb18⟩) hHeld ?restb18
              case hyb18 =>
                intro W hSw
                go_simp
                try with_reducible rfl
              try simp only [Act.put, List.setIfInBounds_toArray, List.set_cons_zero, List.set_cons_succ]
              refine wpAnyH_take (i := 19) (oi := { dst := some 112, op := Op.move (Operand.tmp 11), type := 41, pos := "law.go:122", after := #[{ on := 18, ground := Ground.guard }], guard := some (18, false) }) (v := ?vb19) rfl (by kernel_rfl) (by kernel_rfl) (by kernel_rfl) (fun _ _ _ h => h) (Or.inl ⟨by rfl, ?hyb19⟩) hHeld ?restb19
              case hyb19 =>
                intro W hSw
                go_simp
                try with_reducible rfl
              try simp only [Act.put, List.setIfInBounds_toArray, List.set_cons_zero, List.set_cons_succ]
              refine wpAnyH_take (i := 21) (oi := { dst := some 114, op := Op.move (Operand.tmp 14), type := 3, pos := "law.go:122", after := #[{ on := 18, ground := Ground.guard }], guard := some (18, false) }) (v := ?vb21) rfl (by kernel_rfl) (by kernel_rfl) (by kernel_rfl) (fun _ _ _ h => h) (Or.inl ⟨by rfl, ?hyb21⟩) hHeld ?restb21
              case hyb21 =>
                intro W hSw
                go_simp
                try with_reducible rfl
              try simp only [Act.put, List.setIfInBounds_toArray, List.set_cons_zero, List.set_cons_succ]
              refine wpAnyH_ready (rs := [20]) (by kernel_rfl) (by simp) ?_
              refine AllReadyH.cons (o := { dst := some 113, op := Op.call { callee := Callee.value (Operand.func 26), args := #[Operand.tmp 112], argTypes := #[41] }, type := 3, pos := "law.go:122", after := #[{ on := 19, ground := Ground.data }, { on := 18, ground := Ground.chain }, { on := 18, ground := Ground.guard }], guard := some (18, false) }) rfl (fun K' hK => ?_) AllReadyH.nil
              go_simp
              refine (size_any w15 g _ R15.out.msg).mono ?_
              rintro e w' ⟨rfl, rfl⟩
              rw [show (((absorbs msg0 (nums (l.take kk))).n : Nat) : Int) = (kk : Int) by
                rw [absorbs_n, nums_length, List.length_take, Hln.out, Nat.min_eq_left hkn]
                show ((0 + kk : Nat) : Int) = kk
                omega]
              go_wp2_with fail
              refine hK.out _ _ trivial (fun hHeld => ?_)
              clear hK K'
              try simp only [Act.put, List.setIfInBounds_toArray, List.set_cons_zero, List.set_cons_succ]
              refine wpAnyH_take (i := 22) (oi := { dst := some 115, op := Op.binOp BinOp.neq 3 (Operand.tmp 113) (Operand.tmp 114) 3, type := 4, pos := "law.go:122", after := #[{ on := 20, ground := Ground.data }, { on := 21, ground := Ground.data }, { on := 18, ground := Ground.guard }], guard := some (18, false) }) (v := ?vb22) rfl (by kernel_rfl) (by kernel_rfl) (by kernel_rfl) (fun _ _ _ h => h) (Or.inl ⟨by rfl, ?hyb22⟩) hHeld ?restb22
              case hyb22 =>
                intro W hSw
                go_simp
                try with_reducible rfl
              try simp only [Act.put, List.setIfInBounds_toArray, List.set_cons_zero, List.set_cons_succ]
              refine wpAnyH_take (i := 23) (oi := { dst := some 116, op := Op.pick (Operand.tmp 111) (Operand.const (Value.bool true)) (Operand.tmp 115), type := 4, pos := "law.go:122", after := #[{ on := 18, ground := Ground.data }, { on := 22, ground := Ground.data }], guard := none }) (v := ?vb23) rfl (by kernel_rfl) (by kernel_rfl) (by kernel_rfl) (fun _ _ _ h => h) (Or.inl ⟨by rfl, ?hyb23⟩) hHeld ?restb23
              case hyb23 =>
                intro W hSw
                go_simp
                try with_reducible rfl
              try simp only [Act.put, List.setIfInBounds_toArray, List.set_cons_zero, List.set_cons_succ]
              refine wpAnyH_done (by kernel_rfl) ?_ _
              clear hHeld
              go_wp2
              go_roundw
              case rel => exact ⟨kk, i + 1, rfl, by congr 1, hkn, by omega, R15.out⟩
              case measure => simp [intOf]; omega
            · have hin : i = nc := by omega
              subst hin
              have d3 : decide ((i : Int) < i) = false := by simp
              go_upto_region 31 with fail
              have R0 := Lib.hid Hrel.out.drew
              have hcut := ((Hb.out.same R0.out.keep.here).tailR ha)
              have Hcut := Lib.hid hcut
              have han : (a : Int) ≤ n := by omega
              have hnc' : (n : Int) ≤ c := by omega
              have ha0 : (0 : Int) ≤ a := by omega
              clear hcut Hrel
              refine wp_region_held_drew (S := fun W => W.rangeAt nd 0 (u8s Dg).toList) (by kernel_rfl) R0.out.keep.reads (fun hHeld => ?_)
              change wpAnyH _ _ _ _ _ 20 (Array.replicate 20 false) _ _
              refine wpAnyH_take (i := 0) (oi := { dst := some 118, op := Op.move (Operand.tmp 11), type := 41, pos := "law.go:127", after := #[], guard := none }) (v := ?vc0) rfl (by kernel_rfl) (by kernel_rfl) (by kernel_rfl) (fun _ _ _ h => h) (Or.inl ⟨by rfl, ?hyc0⟩) hHeld ?restc0
              case hyc0 =>
                intro W hSw
                go_simp
                try with_reducible rfl
              try simp only [Act.put, List.setIfInBounds_toArray, List.set_cons_zero, List.set_cons_succ]
              refine wpAnyH_take (i := 1) (oi := { dst := some 119, op := Op.move (Operand.tmp 0), type := 33, pos := "law.go:127", after := #[], guard := none }) (v := ?vc1) rfl (by kernel_rfl) (by kernel_rfl) (by kernel_rfl) (fun _ _ _ h => h) (Or.inl ⟨by rfl, ?hyc1⟩) hHeld ?restc1
              case hyc1 =>
                intro W hSw
                go_simp
                try with_reducible rfl
              try simp only [Act.put, List.setIfInBounds_toArray, List.set_cons_zero, List.set_cons_succ]
              refine wpAnyH_take (i := 2) (oi := { dst := some 120, op := Op.move (Operand.tmp 12), type := 3, pos := "law.go:127", after := #[], guard := none }) (v := ?vc2) rfl (by kernel_rfl) (by kernel_rfl) (by kernel_rfl) (fun _ _ _ h => h) (Or.inl ⟨by rfl, ?hyc2⟩) hHeld ?restc2
              case hyc2 =>
                intro W hSw
                go_simp
                try with_reducible rfl
              try simp only [Act.put, List.setIfInBounds_toArray, List.set_cons_zero, List.set_cons_succ]
              refine wpAnyH_take (i := 3) (oi := { dst := some 121, op := Op.slice 33 (Operand.tmp 119) (some (Operand.tmp 120)) none none, type := 33, pos := "law.go:127", after := #[{ on := 1, ground := Ground.data }, { on := 2, ground := Ground.data }], guard := none }) (v := ?vc3) rfl (by kernel_rfl) (by kernel_rfl) (by kernel_rfl) (fun _ _ _ h => h) (Or.inl ⟨by rfl, ?hyc3⟩) hHeld ?restc3
              case hyc3 =>
                intro W hSw
                go_simp
                try with_reducible rfl
              try simp only [Act.put, List.setIfInBounds_toArray, List.set_cons_zero, List.set_cons_succ]
              generalize (if c = a then A else Option.map (fun x => x.add a) A) = As at *
              refine wpAnyH_ready (rs := [4]) (by kernel_rfl) (by simp) ?_
              refine AllReadyH.cons (o := { dst := some 122, op := Op.call { callee := Callee.value (Operand.func 15), args := #[Operand.tmp 121], argTypes := #[33] }, type := 33, pos := "law.go:127", after := #[{ on := 3, ground := Ground.data }], guard := none }) rfl (fun K' hK => ?_) AllReadyH.nil
              go_simp
              refine (own_any wr.drew w.heap.size (n - a) (c - a) _ _ Hcut.out R0.out.keep.here.size (by omega)).mono ?_
              rintro e w11 ⟨A11, c11, rfl, ho11, -, hb11⟩
              have S11 := Lib.hid (ho11.src R0.out.msg.blk.lt)
              have R11 := Lib.hid (R0.out.below hb11)
              clear ho11 hb11
              go_wp2_with fail
              refine hK.out _ _ R11.out.keep.reads (fun hHeld => ?_)
              clear hK K'
              try simp only [Act.put, List.setIfInBounds_toArray, List.set_cons_zero, List.set_cons_succ]
              refine wpAnyH_ready (rs := [5]) (by kernel_rfl) (by simp) ?_
              refine AllReadyH.cons (o := { dst := some 123, op := Op.call { callee := Callee.value (Operand.func 24), args := #[Operand.tmp 118, Operand.tmp 122], argTypes := #[41, 33] }, type := 24, pos := "law.go:127", after := #[{ on := 0, ground := Ground.data }, { on := 4, ground := Ground.data }, { on := 4, ground := Ground.chain }], guard := none }) rfl (fun K' hK => ?_) AllReadyH.nil
              go_simp
              refine (write_any w11 (Hp.out.here R11.out.keep.here) g _ R11.out.msg Hg0.out (n - a) c11 A11 _ S11.out (by
                rw [absorbs_n, nums_length, List.length_take]
                show 0 + _ + _ ≤ _
                omega)).mono ?_
              rintro e w12 ⟨rfl, hm12, hg12⟩
              have hr12 := R11.out.grown hm12 hg12 Hndg.out Hwg.out
              rw [List.take_append_drop] at hr12
              have R12 := Lib.hid hr12
              clear hm12 hg12 hr12 S11
              go_wp2_with fail
              refine hK.out _ _ R12.out.keep.reads (fun hHeld => ?_)
              clear hK K'
              try simp only [Act.put, List.setIfInBounds_toArray, List.set_cons_zero, List.set_cons_succ]
              refine wpAnyH_take (i := 6) (oi := { dst := some 124, op := Op.binOp BinOp.eql 24 (Operand.tmp 123) (Operand.const (Value.int IntKind.i64 0)) 24, type := 4, pos := "law.go:127", after := #[{ on := 5, ground := Ground.data }], guard := none }) (v := ?vc6) rfl (by kernel_rfl) (by kernel_rfl) (by kernel_rfl) (fun _ _ _ h => h) (Or.inl ⟨by rfl, ?hyc6⟩) hHeld ?restc6
              case hyc6 =>
                intro W hSw
                go_simp
                try with_reducible rfl
              try simp only [Act.put, List.setIfInBounds_toArray, List.set_cons_zero, List.set_cons_succ]
              refine wpAnyH_take (i := 7) (oi := { dst := some 125, op := Op.move (Operand.tmp 124), type := 4, pos := "law.go:127", after := #[{ on := 6, ground := Ground.data }, { on := 5, ground := Ground.chain }], guard := none }) (v := ?vc7) rfl (by kernel_rfl) (by kernel_rfl) (by kernel_rfl) (fun _ _ _ h => h) (Or.inl ⟨by rfl, ?hyc7⟩) hHeld ?restc7
              case hyc7 =>
                intro W hSw
                go_simp
                try with_reducible rfl
              try simp only [Act.put, List.setIfInBounds_toArray, List.set_cons_zero, List.set_cons_succ]
              refine wpAnyH_take (i := 8) (oi := { dst := some 126, op := Op.move (Operand.tmp 11), type := 41, pos := "law.go:127", after := #[{ on := 7, ground := Ground.guard }], guard := some (7, true) }) (v := ?vc8) rfl (by kernel_rfl) (by kernel_rfl) (by kernel_rfl) (fun _ _ _ h => h) (Or.inl ⟨by rfl, ?hyc8⟩) hHeld ?restc8
              case hyc8 =>
                intro W hSw
                go_simp
                try with_reducible rfl
              try simp only [Act.put, List.setIfInBounds_toArray, List.set_cons_zero, List.set_cons_succ]
              refine wpAnyH_take (i := 10) (oi := { dst := some 128, op := Op.load 23 (Operand.tmp 9), type := 23, pos := "law.go:127", after := #[{ on := 7, ground := Ground.guard }], guard := some (7, true) }) rfl (by kernel_rfl) (by kernel_rfl) (by kernel_rfl) (fun _ _ _ h => h) (yieldsIf_load_mid (by rfl) 23 (.tmp 9) rfl nd 0 rfl (u8s Dg).toList _ (fun _ h => h) Tryd.underlying23 rfl (by rw [info32, Array.length_toList, Hsz.out])) hHeld ?restc10
              try simp only [Act.put, List.setIfInBounds_toArray, List.set_cons_zero, List.set_cons_succ]
              refine wpAnyH_ready (rs := [9]) (by kernel_rfl) (by simp) ?_
              refine AllReadyH.cons (o := { dst := some 127, op := Op.call { callee := Callee.value (Operand.func 25), args := #[Operand.tmp 126], argTypes := #[41] }, type := 23, pos := "law.go:127", after := #[{ on := 8, ground := Ground.data }, { on := 7, ground := Ground.chain }, { on := 7, ground := Ground.guard }], guard := some (7, true) }) rfl (fun K' hK => ?_) AllReadyH.nil
              go_simp
              refine (sum_is w12 (Hp.out.here R12.out.keep.here) g _ Dg R12.out.msg (by rw [Hln.out]; omega) HDg.out).mono ?_
              rintro e w13 ⟨rfl, hb13⟩
              have R13 := Lib.hid (R12.out.below hb13)
              clear hb13
              go_wp2_with fail
              refine hK.out _ _ R13.out.keep.reads (fun hHeld => ?_)
              clear hK K'
              try simp only [Act.put, List.setIfInBounds_toArray, List.set_cons_zero, List.set_cons_succ]
              refine wpAnyH_take (i := 11) (oi := { dst := some 129, op := Op.binOp BinOp.eql 23 (Operand.tmp 127) (Operand.tmp 128) 23, type := 4, pos := "law.go:127", after := #[{ on := 9, ground := Ground.data }, { on := 10, ground := Ground.data }, { on := 7, ground := Ground.guard }], guard := some (7, true) }) (v := ?vc11) rfl (by kernel_rfl) (by kernel_rfl) (by kernel_rfl) (fun _ _ _ h => h) (Or.inl ⟨by rfl, ?hyc11⟩) hHeld ?restc11
              case hyc11 =>
                intro W hSw
                go_simp
                try with_reducible rfl
              try simp only [Act.put, List.setIfInBounds_toArray, List.set_cons_zero, List.set_cons_succ]
              refine wpAnyH_take (i := 12) (oi := { dst := some 130, op := Op.pick (Operand.tmp 125) (Operand.tmp 129) (Operand.const (Value.bool false)), type := 4, pos := "law.go:127", after := #[{ on := 7, ground := Ground.data }, { on := 11, ground := Ground.data }], guard := none }) (v := ?vc12) rfl (by kernel_rfl) (by kernel_rfl) (by kernel_rfl) (fun _ _ _ h => h) (Or.inl ⟨by rfl, ?hyc12⟩) hHeld ?restc12
              case hyc12 =>
                intro W hSw
                go_simp
                try with_reducible rfl
              try simp only [Act.put, List.setIfInBounds_toArray, List.set_cons_zero, List.set_cons_succ]
              refine wpAnyH_take (i := 13) (oi := { dst := some 131, op := Op.move (Operand.tmp 130), type := 4, pos := "law.go:127", after := #[{ on := 12, ground := Ground.data }, { on := 9, ground := Ground.chain }], guard := none }) (v := ?vc13) rfl (by kernel_rfl) (by kernel_rfl) (by kernel_rfl) (fun _ _ _ h => h) (Or.inl ⟨by rfl, ?hyc13⟩) hHeld ?restc13
              case hyc13 =>
                intro W hSw
                go_simp
                try with_reducible rfl
              try simp only [Act.put, List.setIfInBounds_toArray, List.set_cons_zero, List.set_cons_succ]
              refine wpAnyH_take (i := 14) (oi := { dst := some 132, op := Op.move (Operand.tmp 11), type := 41, pos := "law.go:127", after := #[{ on := 13, ground := Ground.guard }], guard := some (13, true) }) (v := ?vc14) rfl (by kernel_rfl) (by kernel_rfl) (by kernel_rfl) (fun _ _ _ h => h) (Or.inl ⟨by rfl, ?hyc14⟩) hHeld ?restc14
              case hyc14 =>
                intro W hSw
                go_simp
                try with_reducible rfl
              try simp only [Act.put, List.setIfInBounds_toArray, List.set_cons_zero, List.set_cons_succ]
              refine wpAnyH_take (i := 16) (oi := { dst := some 134, op := Op.load 23 (Operand.tmp 9), type := 23, pos := "law.go:127", after := #[{ on := 13, ground := Ground.guard }], guard := some (13, true) }) rfl (by kernel_rfl) (by kernel_rfl) (by kernel_rfl) (fun _ _ _ h => h) (yieldsIf_load_mid (by rfl) 23 (.tmp 9) rfl nd 0 rfl (u8s Dg).toList _ (fun _ h => h) Tryd.underlying23 rfl (by rw [info32, Array.length_toList, Hsz.out])) hHeld ?restc16
              try simp only [Act.put, List.setIfInBounds_toArray, List.set_cons_zero, List.set_cons_succ]
              refine wpAnyH_ready (rs := [15]) (by kernel_rfl) (by simp) ?_
              refine AllReadyH.cons (o := { dst := some 133, op := Op.call { callee := Callee.value (Operand.func 25), args := #[Operand.tmp 132], argTypes := #[41] }, type := 23, pos := "law.go:127", after := #[{ on := 14, ground := Ground.data }, { on := 13, ground := Ground.chain }, { on := 13, ground := Ground.guard }], guard := some (13, true) }) rfl (fun K' hK => ?_) AllReadyH.nil
              go_simp
              refine (sum_is w13 (Hp.out.here R13.out.keep.here) g _ Dg R13.out.msg (by rw [Hln.out]; omega) HDg.out).mono ?_
              rintro e w14 ⟨rfl, hb14⟩
              have R14 := Lib.hid (R13.out.below hb14)
              clear hb14
              go_wp2_with fail
              refine hK.out _ _ R14.out.keep.reads (fun hHeld => ?_)
              clear hK K'
              try simp only [Act.put, List.setIfInBounds_toArray, List.set_cons_zero, List.set_cons_succ]
              refine wpAnyH_take (i := 17) (oi := { dst := some 135, op := Op.binOp BinOp.eql 23 (Operand.tmp 133) (Operand.tmp 134) 23, type := 4, pos := "law.go:127", after := #[{ on := 15, ground := Ground.data }, { on := 16, ground := Ground.data }, { on := 13, ground := Ground.guard }], guard := some (13, true) }) (v := ?vc17) rfl (by kernel_rfl) (by kernel_rfl) (by kernel_rfl) (fun _ _ _ h => h) (Or.inl ⟨by rfl, ?hyc17⟩) hHeld ?restc17
              case hyc17 =>
                intro W hSw
                go_simp
                try with_reducible rfl
              try simp only [Act.put, List.setIfInBounds_toArray, List.set_cons_zero, List.set_cons_succ]
              refine wpAnyH_take (i := 18) (oi := { dst := some 136, op := Op.pick (Operand.tmp 131) (Operand.tmp 135) (Operand.const (Value.bool false)), type := 4, pos := "law.go:127", after := #[{ on := 13, ground := Ground.data }, { on := 17, ground := Ground.data }], guard := none }) (v := ?vc18) rfl (by kernel_rfl) (by kernel_rfl) (by kernel_rfl) (fun _ _ _ h => h) (Or.inl ⟨by rfl, ?hyc18⟩) hHeld ?restc18
              case hyc18 =>
                intro W hSw
                go_simp
                try with_reducible rfl
              try simp only [Act.put, List.setIfInBounds_toArray, List.set_cons_zero, List.set_cons_succ]
              refine wpAnyH_take (i := 19) (oi := { dst := some 4, op := Op.assign (Operand.tmp 136), type := 4, pos := "law.go:127", after := #[{ on := 18, ground := Ground.data }, { on := 15, ground := Ground.chain }, { on := 0, ground := Ground.phase }, { on := 1, ground := Ground.phase }, { on := 2, ground := Ground.phase }, { on := 3, ground := Ground.phase }, { on := 4, ground := Ground.phase }, { on := 5, ground := Ground.phase }, { on := 6, ground := Ground.phase }, { on := 7, ground := Ground.phase }, { on := 8, ground := Ground.phase }, { on := 9, ground := Ground.phase }, { on := 10, ground := Ground.phase }, { on := 11, ground := Ground.phase }, { on := 12, ground := Ground.phase }, { on := 13, ground := Ground.phase }, { on := 14, ground := Ground.phase }, { on := 15, ground := Ground.phase }, { on := 16, ground := Ground.phase }, { on := 17, ground := Ground.phase }, { on := 18, ground := Ground.phase }], guard := none }) (v := ?vc19) rfl (by kernel_rfl) (by kernel_rfl) (by kernel_rfl) (fun _ _ _ h => h) (Or.inl ⟨by rfl, ?hyc19⟩) hHeld ?restc19
              case hyc19 =>
                intro W hSw
                go_simp
                try with_reducible rfl
              try simp only [Act.put, List.setIfInBounds_toArray, List.set_cons_zero, List.set_cons_succ]
              refine wpAnyH_done (by kernel_rfl) ?_ _
              clear hHeld
              go_wp2
              go_ret
              exact ⟨rfl, R14.out.keep.here⟩
end Go.Proofs.YtpgjnmakpghamaaDoor

/- The walk of the law DigestCalls. -/
import Derived.Test.YtpgjnmakpghamaaDoorRfOf
import Derived.Test.YtpgjnmakpghamaaDoorDgPadInt
import Derived.Test.YtpgjnmakpghamaaDoorRfParse
import Derived.Test.YtpgjnmakpghamaaDoorRfText
import Derived.Test.YtpgjnmakpghamaaDoorDgNil
namespace Go.Proofs.YtpgjnmakpghamaaDoor
open Go.RowKit
set_option linter.unusedVariables false

theorem wpAnyH_weaken {P : Program} {md : Region.Mode} {ops : Array Oper} {Q : Exit → Act → World → Prop} {S S' : World → Prop} (h : ∀ w, S' w → S w) :
    ∀ (fuel : Nat) (listed : Array Bool) (a : Act) (w : World), wpAnyH P md ops Q S' fuel listed a w → wpAnyH P md ops Q S fuel listed a w
  | 0, _, _, _, h0 => h0
  | fuel + 1, _, _, _, h0 => ⟨h0.1, fun i hi => wpOp_mono (fun a' w' h' => ⟨h _ h'.1, wpAnyH_weaken h fuel _ a' w' h'.2⟩) (h0.2 i hi)⟩

/-- In this world the slice reads as these bytes. -/
def Reads (A : Option Addr) (n c : Nat) (l : List UInt8) (w : World) : Prop := (convert 33 9 (.slice A n c)).run Tryd.prog w = .ok (.string ⟨l.toArray⟩) w
theorem Reads.own {w : World} {B n c : Nat} {A : Option Addr} {l : List UInt8} (h : Own w B A n c l) : Reads A n c l w := run_string_of_bytes h.byt
theorem Reads.out {A : Option Addr} {n c : Nat} {l : List UInt8} {w : World} (h : Reads A n c l w) : (convert 33 9 (.slice A n c)).run Tryd.prog w = .ok (.string ⟨l.toArray⟩) w := h

/-- What the law keeps: the boxes of its arguments. -/
structure DC (w W : World) (A : Option Addr) (n c : Nat) (lb : List UInt8) (s bl d : List Nat) : Prop where
  s0 : BlkIs W w.heap.size 29 (u32s s)
  l0 : BlkIs W (w.heap.size + 1) 35 (u8s bl)
  d0 : BlkIs W (w.heap.size + 1 + 1) 23 (u8s d)
  byt : Byt W w.heap.size A n c lb
  here : Below w.heap.size w W
theorem DC.below {w W W' : World} {A : Option Addr} {n c : Nat} {lb : List UInt8} {s bl d : List Nat} (h : DC w W A n c lb s bl d) (hb : Below W.heap.size W W') : DC w W' A n c lb s bl d := ⟨h.s0.here hb, h.l0.here hb, h.d0.here hb, h.byt.below hb h.here.size, Below.onR h.here hb⟩
theorem DC.start (w : World) {A : Option Addr} {n c : Nat} {lb : List UInt8} (s bl d : List Nat) (hb : Byt w w.heap.size A n c lb) : DC w (((w.alloc (.cells (u32s s) 29)).alloc (.cells (u8s bl) 35)).alloc (.cells (u8s d) 23)) A n c lb s bl d := by
  refine ⟨?_, ?_, ?_, ?_, ?_⟩
  · exact (BlkIs.new w _ _).here (((Below.refl _ _).alloc (Nat.le_refl _) _).alloc (by simp) _)
  · have h1 := BlkIs.new (w.alloc (.cells (u32s s) 29)) 35 (u8s bl)
    have h2 := h1.here ((Below.refl _ _).alloc (Nat.le_refl _) (.cells (u8s d) 23))
    simpa using h2
  · have h1 := BlkIs.new ((w.alloc (.cells (u32s s) 29)).alloc (.cells (u8s bl) 35)) 23 (u8s d)
    simpa using h1
  · exact ((hb.alloc (Nat.le_refl _) _).alloc (by simp) _).alloc (by simp; omega) _
  · exact (((Below.refl _ _).alloc (Nat.le_refl _) _).alloc (by simp) _).alloc (by simp; omega) _
/-- A block laid and filled at once. -/
theorem DC.lay {w W : World} {A : Option Addr} {n c : Nat} {lb : List UInt8} {s bl d : List Nat} (h : DC w W A n c lb s bl d) (R : List Nat) : DC w ((W.alloc (.cells (u8s noDigest) 23)).setRow W.heap.size (u8s R)) A n c lb s bl d :=
  h.below (((Below.refl _ _).alloc (Nat.le_refl _) _).grown (grown_setRow _ _ _) (by simp) (by intro q hq; injection hq with hq; omega))
/-- And the two digests parsed. -/
structure DP (w W : World) (gx gy : Nat) (A : Option Addr) (n c : Nat) (lb : List UInt8) (s bl d R : List Nat) : Prop where
  dc : DC w W A n c lb s bl d
  x : BlkIs W gx 23 (u8s R)
  y : BlkIs W gy 23 (u8s R)
theorem DP.below {w W W' : World} {gx gy : Nat} {A : Option Addr} {n c : Nat} {lb : List UInt8} {s bl d R : List Nat} (h : DP w W gx gy A n c lb s bl d R) (hb : Below W.heap.size W W') : DP w W' gx gy A n c lb s bl d R := ⟨h.dc.below hb, h.x.here hb, h.y.here hb⟩
theorem DP.drew {w W : World} {gx gy : Nat} {A : Option Addr} {n c : Nat} {lb : List UInt8} {s bl d R : List Nat} (h : DP w W gx gy A n c lb s bl d R) : DP w W.drew gx gy A n c lb s bl d R := ⟨⟨h.dc.s0, h.dc.l0, h.dc.d0, h.dc.byt.drew, h.dc.here.drew⟩, h.x, h.y⟩
def DPS (W : World) (b gx gy : Nat) (s bl d R : List Nat) : Prop := W.rangeAt b 0 (u32s s).toList ∧ W.rangeAt (b + 1) 0 (u8s bl).toList ∧ W.rangeAt (b + 1 + 1) 0 (u8s d).toList ∧ W.rangeAt gx 0 (u8s R).toList ∧ W.rangeAt gy 0 (u8s R).toList
theorem DP.reads {w W : World} {gx gy : Nat} {A : Option Addr} {n c : Nat} {lb : List UInt8} {s bl d R : List Nat} (h : DP w W gx gy A n c lb s bl d R) : DPS W w.heap.size gx gy s bl d R := ⟨h.dc.s0.range, h.dc.l0.range, h.dc.d0.range, h.x.range, h.y.range⟩
/-- And the two paddings. -/
structure DQ (w W : World) (gx gy : Nat) (A : Option Addr) (n c : Nat) (lb : List UInt8) (s bl d R : List Nat) (B1 B2 : Nat) (A1 A2 : Option Addr) (m c1 c2 : Nat) (p : List UInt8) : Prop where
  dp : DP w W gx gy A n c lb s bl d R
  o1 : Own W B1 A1 m c1 p
  o2 : Own W B2 A2 m c2 p
theorem DQ.below {w W W' : World} {gx gy : Nat} {A : Option Addr} {n c : Nat} {lb : List UInt8} {s bl d R : List Nat} {B1 B2 : Nat} {A1 A2 : Option Addr} {m c1 c2 : Nat} {p : List UInt8} (h : DQ w W gx gy A n c lb s bl d R B1 B2 A1 A2 m c1 c2 p) (hb : Below W.heap.size W W') : DQ w W' gx gy A n c lb s bl d R B1 B2 A1 A2 m c1 c2 p := ⟨h.dp.below hb, h.o1.below hb, h.o2.below hb⟩
theorem DQ.reads {w W : World} {gx gy : Nat} {A : Option Addr} {n c : Nat} {lb : List UInt8} {s bl d R : List Nat} {B1 B2 : Nat} {A1 A2 : Option Addr} {m c1 c2 : Nat} {p : List UInt8} (h : DQ w W gx gy A n c lb s bl d R B1 B2 A1 A2 m c1 c2 p) : Reads A2 m c2 p W ∧ Reads A1 m c1 p W ∧ DPS W w.heap.size gx gy s bl d R := ⟨Reads.own h.o2, Reads.own h.o1, h.dp.reads⟩

/-- Both parse a text alike. -/
theorem parsed (t : ByteArray) : ∃ (R : List Nat) (E : Int), R.length = 32 ∧ (∀ W : World, Calls Tryd.prog 8 #[.string t] W fun e w' => e = .returned (.tuple #[.agg (u8s R), .int .i64 E]) ∧ Below W.heap.size W w') ∧ (∀ W : World, Calls Tryd.prog 13 #[.string t] W fun e w' => e = .returned (.tuple #[.agg (u8s R), .int .i64 E]) ∧ Below W.heap.size W w') := by
  by_cases h : t.size = 64
  · by_cases hk : okTo t 64
    · exact ⟨pdg t, 0, pdg_length t, fun W => parse_any W t h _ _ (.inl ⟨hk, rfl, rfl⟩), fun W => rparse_any W t h _ _ (.inl ⟨hk, rfl, rfl⟩)⟩
    · exact ⟨noDigest, 2, rfl, fun W => parse_any W t h _ _ (.inr ⟨hk, rfl, rfl⟩), fun W => rparse_any W t h _ _ (.inr ⟨hk, rfl, rfl⟩)⟩
  · exact ⟨noDigest, 2, rfl, fun W => parse_short W t h, fun W => rparse_short W t h⟩
theorem run_equal_words (W : World) (t : TypeId) (n : Nat) (ht : Tryd.prog.underlying t = some (.array n 28)) (x : List Nat) (hx : x.length = n) : (Op.equalIn 10000 t (.agg (u32s x)) (.agg (u32s x))).run Tryd.prog W = .ok true W :=
  run_equal_arr W t 28 n .u32 ht Tryd.underlying28 (by kernel_rfl) (u32s x) fun i hi => ⟨_, u32s_get x i (by rw [hx]; exact hi)⟩

set_option maxRecDepth 100000 in
set_option maxHeartbeats 40000000 in
theorem calls_any (w : World) (hp : Primes w) (n c : Nat) (A : Option Addr) (lb : List UInt8) (hb : Byt w w.heap.size A n c lb) (s : List Nat) (hs : s.length = 8) (hsw : Words s) (bl : List Nat) (hl : bl.length = 64) (hlb : Bytes bl)
    (z : Int) (hz1 : -9223372036854775808 ≤ z) (hz2 : z ≤ 9223372036854775807) (t : ByteArray) (d : List Nat) (hd : d.length = 32) (hdb : Bytes d) :
    Calls Tryd.prog 4 #[.slice A n c, .agg (u32s s), .agg (u8s bl), .int .i64 z, .string t, .agg (u8s d)] w (LivesPost w) := by
  have hle := hb.le
  have hcap := hb.cap
  unfold maxLen at hcap
  have D0 := Lib.hid (DC.start w s bl d hb)
  have Hp := Lib.hid hp
  have Hs := Lib.hid hs
  have Hsw := Lib.hid hsw
  have Hl := Lib.hid hl
  have Hlb := Lib.hid hlb
  have Hd := Lib.hid hd
  have Hdb := Lib.hid hdb
  have Hz1 := Lib.hid hz1
  have Hlv := Lib.hid (lives_any (((w.alloc (.cells (u32s s) 29)).alloc (.cells (u8s bl) 35)).alloc (.cells (u8s d) 23)) (hp.here D0.out.here))
  clear hb hp hs hsw hl hlb hd hdb hz1
  by_cases g1 : 3000 < n
  · have d1 : decide ((3000 : Int) < n) = true := by simp; omega
    go_enter Tryd.func4, Tryd.ntmps4
    go_wp2_with fail
    refine Hlv.out.mono ?_
    rintro e w1 ⟨rfl, hb1⟩
    have D1 := Lib.hid (D0.out.below hb1)
    clear hb1 D0
    go_wp2
    go_ret
    exact ⟨rfl, D1.out.here⟩
  have d1 : decide ((3000 : Int) < n) = false := by simp; omega
  by_cases g2 : 3000 < t.size
  · have d2 : decide ((3000 : Int) < t.size) = true := by simp; omega
    go_enter Tryd.func4, Tryd.ntmps4
    go_wp2_with fail
    refine Hlv.out.mono ?_
    rintro e w1 ⟨rfl, hb1⟩
    have D1 := Lib.hid (D0.out.below hb1)
    clear hb1 D0
    go_wp2
    go_ret
    exact ⟨rfl, D1.out.here⟩
  have d2 : decide ((3000 : Int) < t.size) = false := by simp; omega
  by_cases g3 : 1099511627776 < z
  · have d3 : decide ((1099511627776 : Int) < z) = true := by simp; omega
    go_enter Tryd.func4, Tryd.ntmps4
    go_wp2_with fail
    refine Hlv.out.mono ?_
    rintro e w1 ⟨rfl, hb1⟩
    have D1 := Lib.hid (D0.out.below hb1)
    clear hb1 D0
    go_wp2
    go_ret
    exact ⟨rfl, D1.out.here⟩
  have d3 : decide ((1099511627776 : Int) < z) = false := by simp; omega
  go_enter Tryd.func4, Tryd.ntmps4
  go_wp2_with fail
  refine Hlv.out.mono ?_
  rintro e w1 ⟨rfl, hb1⟩
  have D1 := Lib.hid (D0.out.below hb1)
  clear hb1 D0 Hlv
  obtain ⟨R, E, hR, hP1, hP2⟩ := parsed t
  have HR := Lib.hid hR
  have HP1 := Lib.hid hP1
  have HP2 := Lib.hid hP2
  have HRs : Hid ((u8s R).size = 32) := by unfold Hid; rw [u8s_size, hR]
  have Hns : Hid ((u8s noDigest).size = 32) := by unfold Hid; rw [u8s_size, noDigest_length]
  clear hR hP1 hP2
  go_wp2_with fail
  refine (HP1.out w1).mono ?_
  rintro e w2 ⟨rfl, hb2⟩
  have D2 := Lib.hid (D1.out.below hb2)
  clear hb2 D1
  have Hnew := Lib.hid (BlkIs.new w2 23 (u8s noDigest))
  go_upto_region 6 with (first | (rw [← zerosN]; refine wp_store_blk rfl 23 (.tmp 13) (.tmp 34) rfl w2.heap.size rfl (u8s R) rfl Hnew.out (by rw [info32, HRs.out]) (by rw [Hns.out, HRs.out]) (u8s_one _) ?_) | fail)
  have D3 := Lib.hid (D2.out.lay R)
  have X3 := Lib.hid (heap_setRow_same Hnew.out (u8s R))
  clear Hnew D2
  generalize (w2.alloc (.cells (u8s noDigest) 23)).setRow w2.heap.size (u8s R) = w3 at *
  generalize w2.heap.size = gx at *
  go_wp2_with fail
  refine (HP2.out w3).mono ?_
  rintro e w4 ⟨rfl, hb4⟩
  have D4 := Lib.hid (D3.out.below hb4)
  have X4 := Lib.hid (X3.out.here hb4)
  clear hb4 D3 X3
  have Hnew := Lib.hid (BlkIs.new w4 23 (u8s noDigest))
  go_upto_region 7 with (first | (rw [← zerosN]; refine wp_store_blk rfl 23 (.tmp 15) (.tmp 39) rfl w4.heap.size rfl (u8s R) rfl Hnew.out (by rw [info32, HRs.out]) (by rw [Hns.out, HRs.out]) (u8s_one _) ?_) | fail)
  have D5 := Lib.hid (D4.out.lay R)
  have Y5 := Lib.hid (heap_setRow_same Hnew.out (u8s R))
  have X5 := Lib.hid (X4.out.here (((Below.refl _ _).alloc (Nat.le_refl _) (.cells (u8s noDigest) 23)).grown (grown_setRow _ w4.heap.size (u8s R)) (by simp) (by intro q hq; injection hq with hq; omega)))
  clear Hnew D4 X4 HP1 HP2
  generalize (w4.alloc (.cells (u8s noDigest) 23)).setRow w4.heap.size (u8s R) = w5 at *
  generalize w4.heap.size = gy at *
  have P5 : Hid (DP w w5.drew gx gy A n c lb s bl d R) := Lib.hid (DP.drew ⟨D5.out, X5.out, Y5.out⟩)
  clear D5 X5 Y5
  obtain ⟨N, hN⟩ : ∃ N : Nat, N = z.toNat := ⟨_, rfl⟩
  have HN : Hid (N ≤ 1152921504606846976 ∧ (if 0 < z then z else 0) = (N : Int) ∧ (if z < 0 then 0 else z) = (N : Int)) := by
    refine ⟨by omega, ?_, ?_⟩ <;> split <;> omega
  obtain ⟨PU, hPU⟩ : ∃ PU, padU N = PU := ⟨_, rfl⟩
  obtain ⟨PN, hPN⟩ : ∃ PN, 1 + zerosOf N + 8 = PN := ⟨_, rfl⟩
  have Hpd1 : Hid (∀ W : World, Calls Tryd.prog 12 #[.int .i64 z] W fun e w' => ∃ A c, e = .returned (.slice A PN c) ∧ Own w' W.heap.size A PN c PU ∧ Below W.heap.size W w') := by
    intro W
    rw [← hPU, ← hPN]
    exact pad_int W z N HN.out.1 HN.out.2.1 HN.out.2.2
  have Hpd2 : Hid (∀ W : World, Calls Tryd.prog 19 #[.int .i64 z] W fun e w' => ∃ A c, e = .returned (.slice A PN c) ∧ Own w' W.heap.size A PN c PU ∧ Below W.heap.size W w') := by
    intro W
    rw [← hPU, ← hPN]
    exact rpad_any W z N HN.out.1 HN.out.2.1
  obtain ⟨TU, hTU⟩ : ∃ TU : ByteArray, ⟨(textU d).toArray⟩ = TU := ⟨_, rfl⟩
  have Htx1 : Hid (∀ W : World, Calls Tryd.prog 20 #[.agg (u8s d)] W fun e w' => e = .returned (.string TU) ∧ Below W.heap.size W w') := by
    intro W
    rw [← hTU]
    exact text_any W d Hd.out Hdb.out
  have Htx2 : Hid (∀ W : World, Calls Tryd.prog 21 #[.agg (u8s d)] W fun e w' => e = .returned (.string TU) ∧ Below W.heap.size W w') := by
    intro W
    rw [← hTU]
    exact rtext_any W d Hd.out Hdb.out
  obtain ⟨Dg, hDg⟩ : ∃ Dg, ofN lb = Dg := ⟨_, rfl⟩
  have hDl : Dg.length = 32 := by rw [← hDg]; exact dgN_length _
  obtain ⟨M, hM⟩ : ∃ M, mixedN s bl K0 = M := ⟨_, rfl⟩
  have hMl : M.length = 8 := by rw [← hM, mixedN_length, Hs.out]
  obtain ⟨KK, hKK⟩ : ∃ KK, K0 = KK := ⟨_, rfl⟩
  have hKl : KK.length = 64 := by rw [← hKK]; exact K0_length
  obtain ⟨HH, hHH⟩ : ∃ HH, H0 = HH := ⟨_, rfl⟩
  have hHl : HH.length = 8 := by rw [← hHH]; exact H0_length
  have Hof1 : Hid (∀ W : World, Primes W → ∀ (B c : Nat) (A : Option Addr), Byt W B A n c lb → B ≤ W.heap.size → Calls Tryd.prog 14 #[.slice A n c] W fun e w' => e = .returned (.agg (u8s Dg)) ∧ Below W.heap.size W w') := by
    intro W hW B c A h hB
    rw [← hDg]
    exact of_any W hW B n c A lb h hB (by omega)
  have Hof2 : Hid (∀ W : World, ∀ (B c : Nat) (A : Option Addr), Byt W B A n c lb → B ≤ W.heap.size → Calls Tryd.prog 16 #[.slice A n c] W fun e w' => e = .returned (.agg (u8s Dg)) ∧ Below W.heap.size W w') := by
    intro W B c A h hB
    rw [← hDg]
    exact rof_any W n c A lb (h.more hB) (by omega)
  have Hbk1 : Hid (∀ W : World, Primes W → Calls Tryd.prog 17 #[.agg (u32s s), .agg (u8s bl)] W fun e w' => e = .returned (.agg (u32s M)) ∧ Below W.heap.size W w') := by
    intro W hW
    rw [← hM]
    exact block_any W hW s bl Hs.out Hsw.out Hl.out Hlb.out
  have Hbk2 : Hid (∀ W : World, Calls Tryd.prog 18 #[.agg (u32s s), .agg (u8s bl)] W fun e w' => e = .returned (.agg (u32s M)) ∧ Below W.heap.size W w') := by
    intro W
    rw [← hM]
    exact rblk_any W s bl Hs.out Hsw.out Hl.out Hlb.out
  have Hc1 : Hid (∀ W : World, Primes W → Calls Tryd.prog 11 #[] W fun e w' => e = .returned (.agg (u32s KK)) ∧ Below W.heap.size W w') := by
    intro W hW
    rw [← hKK]
    exact constants_any W hW
  have Hc2 : Hid (∀ W : World, Calls Tryd.prog 22 #[] W fun e w' => e = .returned (.agg (u32s KK)) ∧ Below W.heap.size W w') := by
    intro W
    rw [← hKK]
    exact rconst_any W
  have Hg1 : Hid (∀ W : World, Primes W → Calls Tryd.prog 10 #[] W fun e w' => e = .returned (.agg (u32s HH)) ∧ Below W.heap.size W w') := by
    intro W hW
    rw [← hHH]
    exact begin_any W hW
  have Hg2 : Hid (∀ W : World, Calls Tryd.prog 23 #[] W fun e w' => e = .returned (.agg (u32s HH)) ∧ Below W.heap.size W w') := by
    intro W
    rw [← hHH]
    exact rbegin_any W
  have q1 := fun W => run_equal_digest W Dg hDl
  have q2 := fun W => run_equal_words W 29 8 Tryd.underlying29 M hMl
  have q3 := fun W => run_equal_digest W R HR.out
  have q4 := fun W => run_equal_words W 31 64 Tryd.underlying31 KK hKl
  have q5 := fun W => run_equal_words W 29 8 Tryd.underlying29 HH hHl
  have hs8 : Hid ((u32s s).size = 8) := by unfold Hid; rw [u32s_size, Hs.out]
  have hl64 : Hid ((u8s bl).size = 64) := by unfold Hid; rw [u8s_size, Hl.out]
  have hd32 : Hid ((u8s d).size = 32) := by unfold Hid; rw [u8s_size, Hd.out]
  have hn40 : n ≤ 1099511627776 := by omega
  clear hN HN hPU hPN hTU hDg hM hKK hHH hDl hMl hKl hHl d1 d2 d3 g1 g2 g3 Hns
  refine wp_region_held_drew (S := fun W => DPS W w.heap.size gx gy s bl d R) (by kernel_rfl) P5.out.reads (fun hHeld => ?_)
  change wpAnyH _ _ _ _ _ 52 (Array.replicate 52 false) _ _
  refine wpAnyH_take (i := 0) (oi := { dst := some 41, op := Op.move (Operand.tmp 0), type := 33, pos := "law.go:40", after := #[], guard := none }) (v := ?v0) rfl (by kernel_rfl) (by kernel_rfl) (by kernel_rfl) (fun _ _ _ h => h) (Or.inl ⟨by rfl, ?hy0⟩) hHeld ?rest0
  case hy0 =>
    intro W hSw
    go_simp
    try with_reducible rfl
  try simp only [Act.put, List.setIfInBounds_toArray, List.set_cons_zero, List.set_cons_succ]
  refine wpAnyH_take (i := 3) (oi := { dst := some 44, op := Op.move (Operand.tmp 0), type := 33, pos := "law.go:40", after := #[], guard := none }) (v := ?v3) rfl (by kernel_rfl) (by kernel_rfl) (by kernel_rfl) (fun _ _ _ h => h) (Or.inl ⟨by rfl, ?hy3⟩) hHeld ?rest3
  case hy3 =>
    intro W hSw
    go_simp
    try with_reducible rfl
  try simp only [Act.put, List.setIfInBounds_toArray, List.set_cons_zero, List.set_cons_succ]
  refine wpAnyH_ready (rs := [1]) (by kernel_rfl) (by simp) ?_
  refine AllReadyH.cons (o := { dst := some 42, op := Op.call { callee := Callee.value (Operand.func 15), args := #[Operand.tmp 41], argTypes := #[33] }, type := 33, pos := "law.go:40", after := #[{ on := 0, ground := Ground.data }], guard := none }) rfl (fun K' hK => ?_) AllReadyH.nil
  go_simp
  refine (own_any w5.drew w.heap.size n c A lb P5.out.dc.byt P5.out.dc.here.size hn40).mono ?_
  rintro e w6 ⟨A6, c6, rfl, ho, -, hb⟩
  have P6 := Lib.hid (P5.out.below hb)
  have O6 := Lib.hid ho
  clear ho
  clear hb
  show K' _ w6
  refine hK.out _ _ P6.out.reads (fun hHeld => ?_)
  clear hK K'
  try simp only [Act.put, List.setIfInBounds_toArray, List.set_cons_zero, List.set_cons_succ]
  refine wpAnyH_ready (rs := [2]) (by kernel_rfl) (by simp) ?_
  refine AllReadyH.cons (o := { dst := some 43, op := Op.call { callee := Callee.value (Operand.func 14), args := #[Operand.tmp 42], argTypes := #[33] }, type := 23, pos := "law.go:40", after := #[{ on := 1, ground := Ground.data }, { on := 1, ground := Ground.chain }], guard := none }) rfl (fun K' hK => ?_) AllReadyH.nil
  go_simp
  refine (Hof1.out w6 (Hp.out.here P6.out.dc.here) _ c6 A6 O6.out.byt (Nat.le_refl _)).mono ?_
  rintro e w7 ⟨rfl, hb⟩
  have P7 := Lib.hid (P6.out.below hb)
  clear hb
  show K' _ w7
  refine hK.out _ _ P7.out.reads (fun hHeld => ?_)
  clear hK K'
  try simp only [Act.put, List.setIfInBounds_toArray, List.set_cons_zero, List.set_cons_succ]
  refine wpAnyH_ready (rs := [4]) (by kernel_rfl) (by simp) ?_
  refine AllReadyH.cons (o := { dst := some 45, op := Op.call { callee := Callee.value (Operand.func 16), args := #[Operand.tmp 44], argTypes := #[33] }, type := 23, pos := "law.go:40", after := #[{ on := 3, ground := Ground.data }, { on := 2, ground := Ground.chain }], guard := none }) rfl (fun K' hK => ?_) AllReadyH.nil
  go_simp
  refine (Hof2.out w7 _ c A P7.out.dc.byt P7.out.dc.here.size).mono ?_
  rintro e w8 ⟨rfl, hb⟩
  have P8 := Lib.hid (P7.out.below hb)
  clear hb
  show K' _ w8
  refine hK.out _ _ P8.out.reads (fun hHeld => ?_)
  clear hK K'
  try simp only [Act.put, List.setIfInBounds_toArray, List.set_cons_zero, List.set_cons_succ]
  refine wpAnyH_take (i := 5) (oi := { dst := some 46, op := Op.binOp BinOp.eql 23 (Operand.tmp 43) (Operand.tmp 45) 23, type := 4, pos := "law.go:40", after := #[{ on := 2, ground := Ground.data }, { on := 4, ground := Ground.data }], guard := none }) (v := ?v5) rfl (by kernel_rfl) (by kernel_rfl) (by kernel_rfl) (fun _ _ _ h => h) (Or.inl ⟨by rfl, ?hy5⟩) hHeld ?rest5
  case hy5 =>
    intro W hSw
    go_simp
    try with_reducible rfl
  try simp only [Act.put, List.setIfInBounds_toArray, List.set_cons_zero, List.set_cons_succ]
  refine wpAnyH_take (i := 6) (oi := { dst := some 47, op := Op.move (Operand.tmp 46), type := 4, pos := "law.go:40", after := #[{ on := 5, ground := Ground.data }, { on := 4, ground := Ground.chain }], guard := none }) (v := ?v6) rfl (by kernel_rfl) (by kernel_rfl) (by kernel_rfl) (fun _ _ _ h => h) (Or.inl ⟨by rfl, ?hy6⟩) hHeld ?rest6
  case hy6 =>
    intro W hSw
    go_simp
    try with_reducible rfl
  try simp only [Act.put, List.setIfInBounds_toArray, List.set_cons_zero, List.set_cons_succ]
  refine wpAnyH_take (i := 7) (oi := { dst := some 48, op := Op.load 29 (Operand.tmp 7), type := 29, pos := "law.go:40", after := #[{ on := 6, ground := Ground.guard }], guard := some (6, true) }) rfl (by kernel_rfl) (by kernel_rfl) (by kernel_rfl) (fun _ _ _ h => h) (yieldsIf_load_mid (by rfl) 29 (.tmp 7) rfl w.heap.size 0 rfl (u32s s).toList _ (fun _ h => h.1) Tryd.underlying29 rfl (by rw [info8, Array.length_toList, hs8.out])) hHeld ?rest7
  try simp only [Act.put, List.setIfInBounds_toArray, List.set_cons_zero, List.set_cons_succ]
  refine wpAnyH_take (i := 10) (oi := { dst := some 51, op := Op.load 29 (Operand.tmp 7), type := 29, pos := "law.go:40", after := #[{ on := 6, ground := Ground.guard }], guard := some (6, true) }) rfl (by kernel_rfl) (by kernel_rfl) (by kernel_rfl) (fun _ _ _ h => h) (yieldsIf_load_mid (by rfl) 29 (.tmp 7) rfl w.heap.size 0 rfl (u32s s).toList _ (fun _ h => h.1) Tryd.underlying29 rfl (by rw [info8, Array.length_toList, hs8.out])) hHeld ?rest10
  try simp only [Act.put, List.setIfInBounds_toArray, List.set_cons_zero, List.set_cons_succ]
  refine wpAnyH_take (i := 8) (oi := { dst := some 49, op := Op.load 35 (Operand.tmp 8), type := 35, pos := "law.go:40", after := #[{ on := 6, ground := Ground.guard }], guard := some (6, true) }) rfl (by kernel_rfl) (by kernel_rfl) (by kernel_rfl) (fun _ _ _ h => h) (yieldsIf_load_mid (by rfl) 35 (.tmp 8) rfl (w.heap.size + 1) 0 rfl (u8s bl).toList _ (fun _ h => h.2.1) Tryd.underlying35 rfl (by rw [info64b, Array.length_toList, hl64.out])) hHeld ?rest8
  try simp only [Act.put, List.setIfInBounds_toArray, List.set_cons_zero, List.set_cons_succ]
  refine wpAnyH_take (i := 11) (oi := { dst := some 52, op := Op.load 35 (Operand.tmp 8), type := 35, pos := "law.go:40", after := #[{ on := 6, ground := Ground.guard }], guard := some (6, true) }) rfl (by kernel_rfl) (by kernel_rfl) (by kernel_rfl) (fun _ _ _ h => h) (yieldsIf_load_mid (by rfl) 35 (.tmp 8) rfl (w.heap.size + 1) 0 rfl (u8s bl).toList _ (fun _ h => h.2.1) Tryd.underlying35 rfl (by rw [info64b, Array.length_toList, hl64.out])) hHeld ?rest11
  try simp only [Act.put, List.setIfInBounds_toArray, List.set_cons_zero, List.set_cons_succ]
  refine wpAnyH_ready (rs := [9]) (by kernel_rfl) (by simp) ?_
  refine AllReadyH.cons (o := { dst := some 50, op := Op.call { callee := Callee.value (Operand.func 17), args := #[Operand.tmp 48, Operand.tmp 49], argTypes := #[29, 35] }, type := 29, pos := "law.go:40", after := #[{ on := 7, ground := Ground.data }, { on := 8, ground := Ground.data }, { on := 6, ground := Ground.chain }, { on := 6, ground := Ground.guard }], guard := some (6, true) }) rfl (fun K' hK => ?_) AllReadyH.nil
  go_simp
  refine (Hbk1.out w8 (Hp.out.here P8.out.dc.here)).mono ?_
  rintro e w9 ⟨rfl, hb⟩
  have P9 := Lib.hid (P8.out.below hb)
  clear hb
  show K' _ w9
  refine hK.out _ _ P9.out.reads (fun hHeld => ?_)
  clear hK K'
  try simp only [Act.put, List.setIfInBounds_toArray, List.set_cons_zero, List.set_cons_succ]
  refine wpAnyH_ready (rs := [12]) (by kernel_rfl) (by simp) ?_
  refine AllReadyH.cons (o := { dst := some 53, op := Op.call { callee := Callee.value (Operand.func 18), args := #[Operand.tmp 51, Operand.tmp 52], argTypes := #[29, 35] }, type := 29, pos := "law.go:40", after := #[{ on := 10, ground := Ground.data }, { on := 11, ground := Ground.data }, { on := 9, ground := Ground.chain }, { on := 6, ground := Ground.guard }], guard := some (6, true) }) rfl (fun K' hK => ?_) AllReadyH.nil
  go_simp
  refine (Hbk2.out w9).mono ?_
  rintro e w10 ⟨rfl, hb⟩
  have P10 := Lib.hid (P9.out.below hb)
  clear hb
  show K' _ w10
  refine hK.out _ _ P10.out.reads (fun hHeld => ?_)
  clear hK K'
  try simp only [Act.put, List.setIfInBounds_toArray, List.set_cons_zero, List.set_cons_succ]
  refine wpAnyH_take (i := 13) (oi := { dst := some 54, op := Op.binOp BinOp.eql 29 (Operand.tmp 50) (Operand.tmp 53) 29, type := 4, pos := "law.go:40", after := #[{ on := 9, ground := Ground.data }, { on := 12, ground := Ground.data }, { on := 6, ground := Ground.guard }], guard := some (6, true) }) (v := ?v13) rfl (by kernel_rfl) (by kernel_rfl) (by kernel_rfl) (fun _ _ _ h => h) (Or.inl ⟨by rfl, ?hy13⟩) hHeld ?rest13
  case hy13 =>
    intro W hSw
    go_simp
    try with_reducible rfl
  try simp only [Act.put, List.setIfInBounds_toArray, List.set_cons_zero, List.set_cons_succ]
  refine wpAnyH_take (i := 14) (oi := { dst := some 55, op := Op.pick (Operand.tmp 47) (Operand.tmp 54) (Operand.const (Value.bool false)), type := 4, pos := "law.go:40", after := #[{ on := 6, ground := Ground.data }, { on := 13, ground := Ground.data }], guard := none }) (v := ?v14) rfl (by kernel_rfl) (by kernel_rfl) (by kernel_rfl) (fun _ _ _ h => h) (Or.inl ⟨by rfl, ?hy14⟩) hHeld ?rest14
  case hy14 =>
    intro W hSw
    go_simp
    try with_reducible rfl
  try simp only [Act.put, List.setIfInBounds_toArray, List.set_cons_zero, List.set_cons_succ]
  refine wpAnyH_take (i := 15) (oi := { dst := some 56, op := Op.move (Operand.tmp 55), type := 4, pos := "law.go:40", after := #[{ on := 14, ground := Ground.data }, { on := 12, ground := Ground.chain }], guard := none }) (v := ?v15) rfl (by kernel_rfl) (by kernel_rfl) (by kernel_rfl) (fun _ _ _ h => h) (Or.inl ⟨by rfl, ?hy15⟩) hHeld ?rest15
  case hy15 =>
    intro W hSw
    go_simp
    try with_reducible rfl
  try simp only [Act.put, List.setIfInBounds_toArray, List.set_cons_zero, List.set_cons_succ]
  refine wpAnyH_take (i := 16) (oi := { dst := some 57, op := Op.move (Operand.tmp 3), type := 3, pos := "law.go:40", after := #[{ on := 15, ground := Ground.guard }], guard := some (15, true) }) (v := ?v16) rfl (by kernel_rfl) (by kernel_rfl) (by kernel_rfl) (fun _ _ _ h => h) (Or.inl ⟨by rfl, ?hy16⟩) hHeld ?rest16
  case hy16 =>
    intro W hSw
    go_simp
    try with_reducible rfl
  try simp only [Act.put, List.setIfInBounds_toArray, List.set_cons_zero, List.set_cons_succ]
  refine wpAnyH_take (i := 19) (oi := { dst := some 60, op := Op.move (Operand.tmp 3), type := 3, pos := "law.go:40", after := #[{ on := 15, ground := Ground.guard }], guard := some (15, true) }) (v := ?v19) rfl (by kernel_rfl) (by kernel_rfl) (by kernel_rfl) (fun _ _ _ h => h) (Or.inl ⟨by rfl, ?hy19⟩) hHeld ?rest19
  case hy19 =>
    intro W hSw
    go_simp
    try with_reducible rfl
  try simp only [Act.put, List.setIfInBounds_toArray, List.set_cons_zero, List.set_cons_succ]
  refine wpAnyH_ready (rs := [17]) (by kernel_rfl) (by simp) ?_
  refine AllReadyH.cons (o := { dst := some 58, op := Op.call { callee := Callee.value (Operand.func 12), args := #[Operand.tmp 57], argTypes := #[3] }, type := 33, pos := "law.go:40", after := #[{ on := 16, ground := Ground.data }, { on := 15, ground := Ground.chain }, { on := 15, ground := Ground.guard }], guard := some (15, true) }) rfl (fun K' hK => ?_) AllReadyH.nil
  go_simp
  refine (Hpd1.out w10).mono ?_
  rintro e w11 ⟨A1, c1, rfl, ho, hb⟩
  have P11 := Lib.hid (P10.out.below hb)
  have O1 := Lib.hid ho
  clear ho
  clear hb
  show K' _ w11
  refine hK.out _ _ P11.out.reads (fun hHeld => ?_)
  clear hK K'
  try simp only [Act.put, List.setIfInBounds_toArray, List.set_cons_zero, List.set_cons_succ]
  refine wpAnyH_weaken (S' := fun W => Reads A1 PN c1 PU W ∧ DPS W w.heap.size gx gy s bl d R) (fun _ h => h.2) _ _ _ _ ?_
  replace hHeld := And.intro (Reads.own O1.out) hHeld
  refine wpAnyH_take (i := 18) (oi := { dst := some 59, op := Op.convert 33 9 (Operand.tmp 58), type := 9, pos := "law.go:40", after := #[{ on := 17, ground := Ground.data }, { on := 15, ground := Ground.guard }], guard := some (15, true) }) (v := ?v18) rfl (by kernel_rfl) (by kernel_rfl) (by kernel_rfl) (fun _ _ _ h => h) (Or.inl ⟨by rfl, ?hy18⟩) hHeld ?rest18
  case hy18 =>
    intro W hSw
    have s1 := hSw.1.out
    go_simp
    try with_reducible rfl
  try simp only [Act.put, List.setIfInBounds_toArray, List.set_cons_zero, List.set_cons_succ]
  refine wpAnyH_ready (rs := [20]) (by kernel_rfl) (by simp) ?_
  refine AllReadyH.cons (o := { dst := some 61, op := Op.call { callee := Callee.value (Operand.func 19), args := #[Operand.tmp 60], argTypes := #[3] }, type := 33, pos := "law.go:40", after := #[{ on := 19, ground := Ground.data }, { on := 17, ground := Ground.chain }, { on := 15, ground := Ground.guard }], guard := some (15, true) }) rfl (fun K' hK => ?_) AllReadyH.nil
  go_simp
  refine (Hpd2.out w11).mono ?_
  rintro e w12 ⟨A2, c2, rfl, ho, hb⟩
  have P12 := Lib.hid (P11.out.below hb)
  have O2 := Lib.hid ho
  have O1b := Lib.hid (O1.out.below hb)
  clear ho
  clear hb
  show K' _ w12
  refine hK.out _ _ (And.intro (Reads.own O1b.out) P12.out.reads) (fun hHeld => ?_)
  clear hK K'
  try simp only [Act.put, List.setIfInBounds_toArray, List.set_cons_zero, List.set_cons_succ]
  refine wpAnyH_weaken (S' := fun W => Reads A2 PN c2 PU W ∧ Reads A1 PN c1 PU W ∧ DPS W w.heap.size gx gy s bl d R) (fun _ h => h.2) _ _ _ _ ?_
  replace hHeld := And.intro (Reads.own O2.out) hHeld
  have Q12 : Hid (DQ w w12 gx gy A n c lb s bl d R w10.heap.size w11.heap.size A1 A2 PN c1 c2 PU) := Lib.hid ⟨P12.out, O1b.out, O2.out⟩
  refine wpAnyH_take (i := 21) (oi := { dst := some 62, op := Op.convert 33 9 (Operand.tmp 61), type := 9, pos := "law.go:40", after := #[{ on := 20, ground := Ground.data }, { on := 15, ground := Ground.guard }], guard := some (15, true) }) (v := ?v21) rfl (by kernel_rfl) (by kernel_rfl) (by kernel_rfl) (fun _ _ _ h => h) (Or.inl ⟨by rfl, ?hy21⟩) hHeld ?rest21
  case hy21 =>
    intro W hSw
    have s1 := hSw.1.out
    go_simp
    try with_reducible rfl
  try simp only [Act.put, List.setIfInBounds_toArray, List.set_cons_zero, List.set_cons_succ]
  refine wpAnyH_take (i := 22) (oi := { dst := some 63, op := Op.binOp BinOp.eql 9 (Operand.tmp 59) (Operand.tmp 62) 9, type := 4, pos := "law.go:40", after := #[{ on := 18, ground := Ground.data }, { on := 21, ground := Ground.data }, { on := 15, ground := Ground.guard }], guard := some (15, true) }) (v := ?v22) rfl (by kernel_rfl) (by kernel_rfl) (by kernel_rfl) (fun _ _ _ h => h) (Or.inl ⟨by rfl, ?hy22⟩) hHeld ?rest22
  case hy22 =>
    intro W hSw
    go_simp
    try with_reducible rfl
  try simp only [Act.put, List.setIfInBounds_toArray, List.set_cons_zero, List.set_cons_succ]
  refine wpAnyH_take (i := 23) (oi := { dst := some 64, op := Op.pick (Operand.tmp 56) (Operand.tmp 63) (Operand.const (Value.bool false)), type := 4, pos := "law.go:40", after := #[{ on := 15, ground := Ground.data }, { on := 22, ground := Ground.data }], guard := none }) (v := ?v23) rfl (by kernel_rfl) (by kernel_rfl) (by kernel_rfl) (fun _ _ _ h => h) (Or.inl ⟨by rfl, ?hy23⟩) hHeld ?rest23
  case hy23 =>
    intro W hSw
    go_simp
    try with_reducible rfl
  try simp only [Act.put, List.setIfInBounds_toArray, List.set_cons_zero, List.set_cons_succ]
  refine wpAnyH_take (i := 24) (oi := { dst := some 65, op := Op.move (Operand.tmp 64), type := 4, pos := "law.go:40", after := #[{ on := 23, ground := Ground.data }, { on := 20, ground := Ground.chain }], guard := none }) (v := ?v24) rfl (by kernel_rfl) (by kernel_rfl) (by kernel_rfl) (fun _ _ _ h => h) (Or.inl ⟨by rfl, ?hy24⟩) hHeld ?rest24
  case hy24 =>
    intro W hSw
    go_simp
    try with_reducible rfl
  try simp only [Act.put, List.setIfInBounds_toArray, List.set_cons_zero, List.set_cons_succ]
  refine wpAnyH_take (i := 25) (oi := { dst := some 66, op := Op.load 23 (Operand.tmp 11), type := 23, pos := "law.go:40", after := #[{ on := 24, ground := Ground.guard }], guard := some (24, true) }) rfl (by kernel_rfl) (by kernel_rfl) (by kernel_rfl) (fun _ _ _ h => h) (yieldsIf_load_mid (by rfl) 23 (.tmp 11) rfl (w.heap.size + 1 + 1) 0 rfl (u8s d).toList _ (fun _ h => h.2.2.2.2.1) Tryd.underlying23 rfl (by rw [info32, Array.length_toList, hd32.out])) hHeld ?rest25
  try simp only [Act.put, List.setIfInBounds_toArray, List.set_cons_zero, List.set_cons_succ]
  refine wpAnyH_take (i := 27) (oi := { dst := some 68, op := Op.load 23 (Operand.tmp 11), type := 23, pos := "law.go:40", after := #[{ on := 24, ground := Ground.guard }], guard := some (24, true) }) rfl (by kernel_rfl) (by kernel_rfl) (by kernel_rfl) (fun _ _ _ h => h) (yieldsIf_load_mid (by rfl) 23 (.tmp 11) rfl (w.heap.size + 1 + 1) 0 rfl (u8s d).toList _ (fun _ h => h.2.2.2.2.1) Tryd.underlying23 rfl (by rw [info32, Array.length_toList, hd32.out])) hHeld ?rest27
  try simp only [Act.put, List.setIfInBounds_toArray, List.set_cons_zero, List.set_cons_succ]
  refine wpAnyH_ready (rs := [26]) (by kernel_rfl) (by simp) ?_
  refine AllReadyH.cons (o := { dst := some 67, op := Op.call { callee := Callee.value (Operand.func 20), args := #[Operand.tmp 66], argTypes := #[23] }, type := 9, pos := "law.go:40", after := #[{ on := 25, ground := Ground.data }, { on := 24, ground := Ground.chain }, { on := 24, ground := Ground.guard }], guard := some (24, true) }) rfl (fun K' hK => ?_) AllReadyH.nil
  go_simp
  refine (Htx1.out w12).mono ?_
  rintro e w13 ⟨rfl, hb⟩
  have Q13 := Lib.hid (Q12.out.below hb)
  clear hb
  show K' _ w13
  refine hK.out _ _ Q13.out.reads (fun hHeld => ?_)
  clear hK K'
  try simp only [Act.put, List.setIfInBounds_toArray, List.set_cons_zero, List.set_cons_succ]
  refine wpAnyH_ready (rs := [28]) (by kernel_rfl) (by simp) ?_
  refine AllReadyH.cons (o := { dst := some 69, op := Op.call { callee := Callee.value (Operand.func 21), args := #[Operand.tmp 68], argTypes := #[23] }, type := 9, pos := "law.go:40", after := #[{ on := 27, ground := Ground.data }, { on := 26, ground := Ground.chain }, { on := 24, ground := Ground.guard }], guard := some (24, true) }) rfl (fun K' hK => ?_) AllReadyH.nil
  go_simp
  refine (Htx2.out w13).mono ?_
  rintro e w14 ⟨rfl, hb⟩
  have Q14 := Lib.hid (Q13.out.below hb)
  clear hb
  show K' _ w14
  refine hK.out _ _ Q14.out.reads (fun hHeld => ?_)
  clear hK K'
  try simp only [Act.put, List.setIfInBounds_toArray, List.set_cons_zero, List.set_cons_succ]
  refine wpAnyH_take (i := 29) (oi := { dst := some 70, op := Op.binOp BinOp.eql 9 (Operand.tmp 67) (Operand.tmp 69) 9, type := 4, pos := "law.go:40", after := #[{ on := 26, ground := Ground.data }, { on := 28, ground := Ground.data }, { on := 24, ground := Ground.guard }], guard := some (24, true) }) (v := ?v29) rfl (by kernel_rfl) (by kernel_rfl) (by kernel_rfl) (fun _ _ _ h => h) (Or.inl ⟨by rfl, ?hy29⟩) hHeld ?rest29
  case hy29 =>
    intro W hSw
    go_simp
    try with_reducible rfl
  try simp only [Act.put, List.setIfInBounds_toArray, List.set_cons_zero, List.set_cons_succ]
  refine wpAnyH_take (i := 30) (oi := { dst := some 71, op := Op.pick (Operand.tmp 65) (Operand.tmp 70) (Operand.const (Value.bool false)), type := 4, pos := "law.go:40", after := #[{ on := 24, ground := Ground.data }, { on := 29, ground := Ground.data }], guard := none }) (v := ?v30) rfl (by kernel_rfl) (by kernel_rfl) (by kernel_rfl) (fun _ _ _ h => h) (Or.inl ⟨by rfl, ?hy30⟩) hHeld ?rest30
  case hy30 =>
    intro W hSw
    go_simp
    try with_reducible rfl
  try simp only [Act.put, List.setIfInBounds_toArray, List.set_cons_zero, List.set_cons_succ]
  refine wpAnyH_take (i := 31) (oi := { dst := some 72, op := Op.move (Operand.tmp 71), type := 4, pos := "law.go:40", after := #[{ on := 30, ground := Ground.data }, { on := 28, ground := Ground.chain }], guard := none }) (v := ?v31) rfl (by kernel_rfl) (by kernel_rfl) (by kernel_rfl) (fun _ _ _ h => h) (Or.inl ⟨by rfl, ?hy31⟩) hHeld ?rest31
  case hy31 =>
    intro W hSw
    go_simp
    try with_reducible rfl
  try simp only [Act.put, List.setIfInBounds_toArray, List.set_cons_zero, List.set_cons_succ]
  refine wpAnyH_take (i := 32) (oi := { dst := some 73, op := Op.load 23 (Operand.tmp 13), type := 23, pos := "law.go:40", after := #[{ on := 31, ground := Ground.guard }], guard := some (31, true) }) rfl (by kernel_rfl) (by kernel_rfl) (by kernel_rfl) (fun _ _ _ h => h) (yieldsIf_load_mid (by rfl) 23 (.tmp 13) rfl gx 0 rfl (u8s R).toList _ (fun _ h => h.2.2.2.2.2.1) Tryd.underlying23 rfl (by rw [info32, Array.length_toList, HRs.out])) hHeld ?rest32
  try simp only [Act.put, List.setIfInBounds_toArray, List.set_cons_zero, List.set_cons_succ]
  refine wpAnyH_take (i := 33) (oi := { dst := some 74, op := Op.load 23 (Operand.tmp 15), type := 23, pos := "law.go:40", after := #[{ on := 31, ground := Ground.guard }], guard := some (31, true) }) rfl (by kernel_rfl) (by kernel_rfl) (by kernel_rfl) (fun _ _ _ h => h) (yieldsIf_load_mid (by rfl) 23 (.tmp 15) rfl gy 0 rfl (u8s R).toList _ (fun _ h => h.2.2.2.2.2.2) Tryd.underlying23 rfl (by rw [info32, Array.length_toList, HRs.out])) hHeld ?rest33
  try simp only [Act.put, List.setIfInBounds_toArray, List.set_cons_zero, List.set_cons_succ]
  refine wpAnyH_take (i := 34) (oi := { dst := some 75, op := Op.binOp BinOp.eql 23 (Operand.tmp 73) (Operand.tmp 74) 23, type := 4, pos := "law.go:40", after := #[{ on := 32, ground := Ground.data }, { on := 33, ground := Ground.data }, { on := 31, ground := Ground.guard }], guard := some (31, true) }) (v := ?v34) rfl (by kernel_rfl) (by kernel_rfl) (by kernel_rfl) (fun _ _ _ h => h) (Or.inl ⟨by rfl, ?hy34⟩) hHeld ?rest34
  case hy34 =>
    intro W hSw
    go_simp
    try with_reducible rfl
  try simp only [Act.put, List.setIfInBounds_toArray, List.set_cons_zero, List.set_cons_succ]
  refine wpAnyH_take (i := 35) (oi := { dst := some 76, op := Op.pick (Operand.tmp 72) (Operand.tmp 75) (Operand.const (Value.bool false)), type := 4, pos := "law.go:40", after := #[{ on := 31, ground := Ground.data }, { on := 34, ground := Ground.data }], guard := none }) (v := ?v35) rfl (by kernel_rfl) (by kernel_rfl) (by kernel_rfl) (fun _ _ _ h => h) (Or.inl ⟨by rfl, ?hy35⟩) hHeld ?rest35
  case hy35 =>
    intro W hSw
    go_simp
    try with_reducible rfl
  try simp only [Act.put, List.setIfInBounds_toArray, List.set_cons_zero, List.set_cons_succ]
  refine wpAnyH_take (i := 36) (oi := { dst := some 77, op := Op.move (Operand.tmp 76), type := 4, pos := "law.go:40", after := #[{ on := 35, ground := Ground.data }, { on := 31, ground := Ground.chain }], guard := none }) (v := ?v36) rfl (by kernel_rfl) (by kernel_rfl) (by kernel_rfl) (fun _ _ _ h => h) (Or.inl ⟨by rfl, ?hy36⟩) hHeld ?rest36
  case hy36 =>
    intro W hSw
    go_simp
    try with_reducible rfl
  try simp only [Act.put, List.setIfInBounds_toArray, List.set_cons_zero, List.set_cons_succ]
  refine wpAnyH_take (i := 37) (oi := { dst := some 78, op := Op.move (Operand.tmp 14), type := 24, pos := "law.go:40", after := #[{ on := 36, ground := Ground.guard }], guard := some (36, true) }) (v := ?v37) rfl (by kernel_rfl) (by kernel_rfl) (by kernel_rfl) (fun _ _ _ h => h) (Or.inl ⟨by rfl, ?hy37⟩) hHeld ?rest37
  case hy37 =>
    intro W hSw
    go_simp
    try with_reducible rfl
  try simp only [Act.put, List.setIfInBounds_toArray, List.set_cons_zero, List.set_cons_succ]
  refine wpAnyH_take (i := 38) (oi := { dst := some 79, op := Op.move (Operand.tmp 16), type := 24, pos := "law.go:40", after := #[{ on := 36, ground := Ground.guard }], guard := some (36, true) }) (v := ?v38) rfl (by kernel_rfl) (by kernel_rfl) (by kernel_rfl) (fun _ _ _ h => h) (Or.inl ⟨by rfl, ?hy38⟩) hHeld ?rest38
  case hy38 =>
    intro W hSw
    go_simp
    try with_reducible rfl
  try simp only [Act.put, List.setIfInBounds_toArray, List.set_cons_zero, List.set_cons_succ]
  refine wpAnyH_take (i := 39) (oi := { dst := some 80, op := Op.binOp BinOp.eql 24 (Operand.tmp 78) (Operand.tmp 79) 24, type := 4, pos := "law.go:40", after := #[{ on := 37, ground := Ground.data }, { on := 38, ground := Ground.data }, { on := 36, ground := Ground.guard }], guard := some (36, true) }) (v := ?v39) rfl (by kernel_rfl) (by kernel_rfl) (by kernel_rfl) (fun _ _ _ h => h) (Or.inl ⟨by rfl, ?hy39⟩) hHeld ?rest39
  case hy39 =>
    intro W hSw
    go_simp
    try with_reducible rfl
  try simp only [Act.put, List.setIfInBounds_toArray, List.set_cons_zero, List.set_cons_succ]
  refine wpAnyH_take (i := 40) (oi := { dst := some 81, op := Op.pick (Operand.tmp 77) (Operand.tmp 80) (Operand.const (Value.bool false)), type := 4, pos := "law.go:40", after := #[{ on := 36, ground := Ground.data }, { on := 39, ground := Ground.data }], guard := none }) (v := ?v40) rfl (by kernel_rfl) (by kernel_rfl) (by kernel_rfl) (fun _ _ _ h => h) (Or.inl ⟨by rfl, ?hy40⟩) hHeld ?rest40
  case hy40 =>
    intro W hSw
    go_simp
    try with_reducible rfl
  try simp only [Act.put, List.setIfInBounds_toArray, List.set_cons_zero, List.set_cons_succ]
  refine wpAnyH_take (i := 41) (oi := { dst := some 82, op := Op.move (Operand.tmp 81), type := 4, pos := "law.go:40", after := #[{ on := 40, ground := Ground.data }, { on := 36, ground := Ground.chain }], guard := none }) (v := ?v41) rfl (by kernel_rfl) (by kernel_rfl) (by kernel_rfl) (fun _ _ _ h => h) (Or.inl ⟨by rfl, ?hy41⟩) hHeld ?rest41
  case hy41 =>
    intro W hSw
    go_simp
    try with_reducible rfl
  try simp only [Act.put, List.setIfInBounds_toArray, List.set_cons_zero, List.set_cons_succ]
  refine wpAnyH_ready (rs := [42]) (by kernel_rfl) (by simp) ?_
  refine AllReadyH.cons (o := { dst := some 83, op := Op.call { callee := Callee.value (Operand.func 11), args := #[], argTypes := #[] }, type := 31, pos := "law.go:40", after := #[{ on := 41, ground := Ground.chain }, { on := 41, ground := Ground.guard }], guard := some (41, true) }) rfl (fun K' hK => ?_) AllReadyH.nil
  go_simp
  refine (Hc1.out w14 (Hp.out.here Q14.out.dp.dc.here)).mono ?_
  rintro e w15 ⟨rfl, hb⟩
  have Q15 := Lib.hid (Q14.out.below hb)
  clear hb
  show K' _ w15
  refine hK.out _ _ Q15.out.reads (fun hHeld => ?_)
  clear hK K'
  try simp only [Act.put, List.setIfInBounds_toArray, List.set_cons_zero, List.set_cons_succ]
  refine wpAnyH_ready (rs := [43]) (by kernel_rfl) (by simp) ?_
  refine AllReadyH.cons (o := { dst := some 84, op := Op.call { callee := Callee.value (Operand.func 22), args := #[], argTypes := #[] }, type := 31, pos := "law.go:40", after := #[{ on := 42, ground := Ground.chain }, { on := 41, ground := Ground.guard }], guard := some (41, true) }) rfl (fun K' hK => ?_) AllReadyH.nil
  go_simp
  refine (Hc2.out w15).mono ?_
  rintro e w16 ⟨rfl, hb⟩
  have Q16 := Lib.hid (Q15.out.below hb)
  clear hb
  show K' _ w16
  refine hK.out _ _ Q16.out.reads (fun hHeld => ?_)
  clear hK K'
  try simp only [Act.put, List.setIfInBounds_toArray, List.set_cons_zero, List.set_cons_succ]
  refine wpAnyH_take (i := 44) (oi := { dst := some 85, op := Op.binOp BinOp.eql 31 (Operand.tmp 83) (Operand.tmp 84) 31, type := 4, pos := "law.go:40", after := #[{ on := 42, ground := Ground.data }, { on := 43, ground := Ground.data }, { on := 41, ground := Ground.guard }], guard := some (41, true) }) (v := ?v44) rfl (by kernel_rfl) (by kernel_rfl) (by kernel_rfl) (fun _ _ _ h => h) (Or.inl ⟨by rfl, ?hy44⟩) hHeld ?rest44
  case hy44 =>
    intro W hSw
    go_simp
    try with_reducible rfl
  try simp only [Act.put, List.setIfInBounds_toArray, List.set_cons_zero, List.set_cons_succ]
  refine wpAnyH_take (i := 45) (oi := { dst := some 86, op := Op.pick (Operand.tmp 82) (Operand.tmp 85) (Operand.const (Value.bool false)), type := 4, pos := "law.go:40", after := #[{ on := 41, ground := Ground.data }, { on := 44, ground := Ground.data }], guard := none }) (v := ?v45) rfl (by kernel_rfl) (by kernel_rfl) (by kernel_rfl) (fun _ _ _ h => h) (Or.inl ⟨by rfl, ?hy45⟩) hHeld ?rest45
  case hy45 =>
    intro W hSw
    go_simp
    try with_reducible rfl
  try simp only [Act.put, List.setIfInBounds_toArray, List.set_cons_zero, List.set_cons_succ]
  refine wpAnyH_take (i := 46) (oi := { dst := some 87, op := Op.move (Operand.tmp 86), type := 4, pos := "law.go:40", after := #[{ on := 45, ground := Ground.data }, { on := 43, ground := Ground.chain }], guard := none }) (v := ?v46) rfl (by kernel_rfl) (by kernel_rfl) (by kernel_rfl) (fun _ _ _ h => h) (Or.inl ⟨by rfl, ?hy46⟩) hHeld ?rest46
  case hy46 =>
    intro W hSw
    go_simp
    try with_reducible rfl
  try simp only [Act.put, List.setIfInBounds_toArray, List.set_cons_zero, List.set_cons_succ]
  refine wpAnyH_ready (rs := [47]) (by kernel_rfl) (by simp) ?_
  refine AllReadyH.cons (o := { dst := some 88, op := Op.call { callee := Callee.value (Operand.func 10), args := #[], argTypes := #[] }, type := 29, pos := "law.go:40", after := #[{ on := 46, ground := Ground.chain }, { on := 46, ground := Ground.guard }], guard := some (46, true) }) rfl (fun K' hK => ?_) AllReadyH.nil
  go_simp
  refine (Hg1.out w16 (Hp.out.here Q16.out.dp.dc.here)).mono ?_
  rintro e w17 ⟨rfl, hb⟩
  have Q17 := Lib.hid (Q16.out.below hb)
  clear hb
  show K' _ w17
  refine hK.out _ _ Q17.out.reads (fun hHeld => ?_)
  clear hK K'
  try simp only [Act.put, List.setIfInBounds_toArray, List.set_cons_zero, List.set_cons_succ]
  refine wpAnyH_ready (rs := [48]) (by kernel_rfl) (by simp) ?_
  refine AllReadyH.cons (o := { dst := some 89, op := Op.call { callee := Callee.value (Operand.func 23), args := #[], argTypes := #[] }, type := 29, pos := "law.go:40", after := #[{ on := 47, ground := Ground.chain }, { on := 46, ground := Ground.guard }], guard := some (46, true) }) rfl (fun K' hK => ?_) AllReadyH.nil
  go_simp
  refine (Hg2.out w17).mono ?_
  rintro e w18 ⟨rfl, hb⟩
  have Q18 := Lib.hid (Q17.out.below hb)
  clear hb
  show K' _ w18
  refine hK.out _ _ Q18.out.reads (fun hHeld => ?_)
  clear hK K'
  try simp only [Act.put, List.setIfInBounds_toArray, List.set_cons_zero, List.set_cons_succ]
  refine wpAnyH_take (i := 49) (oi := { dst := some 90, op := Op.binOp BinOp.eql 29 (Operand.tmp 88) (Operand.tmp 89) 29, type := 4, pos := "law.go:40", after := #[{ on := 47, ground := Ground.data }, { on := 48, ground := Ground.data }, { on := 46, ground := Ground.guard }], guard := some (46, true) }) (v := ?v49) rfl (by kernel_rfl) (by kernel_rfl) (by kernel_rfl) (fun _ _ _ h => h) (Or.inl ⟨by rfl, ?hy49⟩) hHeld ?rest49
  case hy49 =>
    intro W hSw
    go_simp
    try with_reducible rfl
  try simp only [Act.put, List.setIfInBounds_toArray, List.set_cons_zero, List.set_cons_succ]
  refine wpAnyH_take (i := 50) (oi := { dst := some 91, op := Op.pick (Operand.tmp 87) (Operand.tmp 90) (Operand.const (Value.bool false)), type := 4, pos := "law.go:40", after := #[{ on := 46, ground := Ground.data }, { on := 49, ground := Ground.data }], guard := none }) (v := ?v50) rfl (by kernel_rfl) (by kernel_rfl) (by kernel_rfl) (fun _ _ _ h => h) (Or.inl ⟨by rfl, ?hy50⟩) hHeld ?rest50
  case hy50 =>
    intro W hSw
    go_simp
    try with_reducible rfl
  try simp only [Act.put, List.setIfInBounds_toArray, List.set_cons_zero, List.set_cons_succ]
  refine wpAnyH_take (i := 51) (oi := { dst := some 12, op := Op.assign (Operand.tmp 91), type := 4, pos := "law.go:40", after := #[{ on := 50, ground := Ground.data }, { on := 48, ground := Ground.chain }, { on := 0, ground := Ground.phase }, { on := 1, ground := Ground.phase }, { on := 2, ground := Ground.phase }, { on := 3, ground := Ground.phase }, { on := 4, ground := Ground.phase }, { on := 5, ground := Ground.phase }, { on := 6, ground := Ground.phase }, { on := 7, ground := Ground.phase }, { on := 8, ground := Ground.phase }, { on := 9, ground := Ground.phase }, { on := 10, ground := Ground.phase }, { on := 11, ground := Ground.phase }, { on := 12, ground := Ground.phase }, { on := 13, ground := Ground.phase }, { on := 14, ground := Ground.phase }, { on := 15, ground := Ground.phase }, { on := 16, ground := Ground.phase }, { on := 17, ground := Ground.phase }, { on := 18, ground := Ground.phase }, { on := 19, ground := Ground.phase }, { on := 20, ground := Ground.phase }, { on := 21, ground := Ground.phase }, { on := 22, ground := Ground.phase }, { on := 23, ground := Ground.phase }, { on := 24, ground := Ground.phase }, { on := 25, ground := Ground.phase }, { on := 26, ground := Ground.phase }, { on := 27, ground := Ground.phase }, { on := 28, ground := Ground.phase }, { on := 29, ground := Ground.phase }, { on := 30, ground := Ground.phase }, { on := 31, ground := Ground.phase }, { on := 32, ground := Ground.phase }, { on := 33, ground := Ground.phase }, { on := 34, ground := Ground.phase }, { on := 35, ground := Ground.phase }, { on := 36, ground := Ground.phase }, { on := 37, ground := Ground.phase }, { on := 38, ground := Ground.phase }, { on := 39, ground := Ground.phase }, { on := 40, ground := Ground.phase }, { on := 41, ground := Ground.phase }, { on := 42, ground := Ground.phase }, { on := 43, ground := Ground.phase }, { on := 44, ground := Ground.phase }, { on := 45, ground := Ground.phase }, { on := 46, ground := Ground.phase }, { on := 47, ground := Ground.phase }, { on := 48, ground := Ground.phase }, { on := 49, ground := Ground.phase }, { on := 50, ground := Ground.phase }], guard := none }) (v := ?v51) rfl (by kernel_rfl) (by kernel_rfl) (by kernel_rfl) (fun _ _ _ h => h) (Or.inl ⟨by rfl, ?hy51⟩) hHeld ?rest51
  case hy51 =>
    intro W hSw
    go_simp
    try with_reducible rfl
  try simp only [Act.put, List.setIfInBounds_toArray, List.set_cons_zero, List.set_cons_succ]
  refine wpAnyH_done (by kernel_rfl) ?_ _
  go_wp2_with fail
  go_ret
  exact ⟨rfl, Q18.out.dp.dc.here⟩
end Go.Proofs.YtpgjnmakpghamaaDoor

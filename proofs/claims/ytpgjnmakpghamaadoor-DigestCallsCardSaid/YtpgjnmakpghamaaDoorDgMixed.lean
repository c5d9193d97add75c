/- Contract: the state behind a block. -/
import Derived.Test.YtpgjnmakpghamaaDoorDgSched
namespace Go.Proofs.YtpgjnmakpghamaaDoor
open Go.RowKit
set_option linter.unusedVariables false

/-- All eight are words. -/
structure StW (s : St) : Prop where
  a : s.a < 4294967296
  b : s.b < 4294967296
  c : s.c < 4294967296
  d : s.d < 4294967296
  e : s.e < 4294967296
  f : s.f < 4294967296
  g : s.g < 4294967296
  h : s.h < 4294967296
theorem rnd_w (s : St) (k w : Nat) (h : StW s) : StW (rnd s k w) := ⟨add32_lt _ _, h.a, h.b, h.c, add32_lt _ _, h.e, h.f, h.g⟩
theorem rounds_w (k ws : List Nat) (s : St) (h : StW s) : ∀ t, StW (rounds k ws s t)
  | 0 => h
  | t + 1 => rnd_w _ _ _ (rounds_w k ws s h t)
theorem plusGo_length (s r : List Nat) : ∀ i, (plusGo s r i).length = s.length
  | 0 => rfl
  | i + 1 => by rw [plusGo, List.length_set, plusGo_length s r i]
theorem plusGo_words (s r : List Nat) (h : Words s) : ∀ i, Words (plusGo s r i)
  | 0 => h
  | i + 1 => by
    rw [plusGo]
    exact (plusGo_words s r h i).set _ _ (add32_lt _ _)
theorem mixedN_words (s l k : List Nat) (h : Words s) : Words (mixedN s l k) := plusGo_words s _ h 8
theorem mixedN_length (s l k : List Nat) : (mixedN s l k).length = s.length := plusGo_length s _ 8

/-- What the walk keeps in memory. -/
structure MixM (w wr : World) (b7 : Nat) (s ws k : List Nat) : Prop where
  hs : BlkIs wr w.heap.size 29 (u32s s)
  hk : BlkIs wr (w.heap.size + 1 + 1) 31 (u32s k)
  hr : BlkIs wr (w.heap.size + 1 + 1 + 1) 29 (u32s (filled H0 0))
  hw : BlkIs wr b7 31 (u32s ws)
  hb7 : w.heap.size + 1 + 1 + 1 < b7
  below : Below w.heap.size w wr
theorem MixM.here {w wr wx : World} {b7 : Nat} {s ws k : List Nat} (h : MixM w wr b7 s ws k) (hb : Below wr.heap.size wr wx) : MixM w wx b7 s ws k :=
  ⟨h.hs.here hb, h.hk.here hb, h.hr.here hb, h.hw.here hb, h.hb7, Below.onR h.below hb⟩
theorem MixM.drew {w wr : World} {b7 : Nat} {s ws k : List Nat} (h : MixM w wr b7 s ws k) : MixM w wr.drew b7 s ws k := ⟨h.hs, h.hk, h.hr, h.hw, h.hb7, h.below.drew⟩
theorem MixM.drewN {w wr : World} {b7 : Nat} {s ws k : List Nat} (h : MixM w wr b7 s ws k) (q : Nat) : MixM w (wr.drewN q) b7 s ws k := ⟨h.hs, h.hk, h.hr, h.hw, h.hb7, ⟨h.below.os, h.below.tape, h.below.output, h.below.size, h.below.block⟩⟩

set_option maxRecDepth 100000 in
set_option maxHeartbeats 2000000 in
theorem mixed_any (w : World) (s l k : List Nat) (hs : s.length = 8) (hsw : Words s) (hl : l.length = 64) (hlb : ∀ i, l.getD i 0 < 256) (hk : k.length = 64) (hkw : Words k) :
    Calls Tryd.prog 39 #[.agg (u32s s), .agg (u8s l), .agg (u32s k)] w fun e w' => e = .returned (.agg (u32s (mixedN s l k))) ∧ Below w.heap.size w w' := by
  have Hs := Lib.hid hs
  have Hsw := Lib.hid hsw
  have Hl := Lib.hid hl
  have Hlb := Lib.hid hlb
  have Hk := Lib.hid hk
  have Hkw := Lib.hid hkw
  have Hsz : Hid ((u8s l).size = 64) := by unfold Hid; rw [u8s_size, hl]
  clear hs hsw hl hlb hk hkw
  have hbx : BlkIs ((((w.alloc (.cells (u32s s) 29)).alloc (.cells (u8s l) 35)).alloc (.cells (u32s k) 31)).alloc (.cells #[.int .u32 0, .int .u32 0, .int .u32 0, .int .u32 0, .int .u32 0, .int .u32 0, .int .u32 0, .int .u32 0] 29)) (w.heap.size + 1) 35 (u8s l) := by
    have h1 := BlkIs.new (w.alloc (.cells (u32s s) 29)) 35 (u8s l)
    have h2 := h1.here ((Below.refl _ _).alloc (Nat.le_refl _) (.cells (u32s k) 31))
    have h3 := h2.here ((Below.refl _ _).alloc (Nat.le_refl _) (.cells #[.int .u32 0, .int .u32 0, .int .u32 0, .int .u32 0, .int .u32 0, .int .u32 0, .int .u32 0, .int .u32 0] 29))
    simpa using h3
  have Hbx := Lib.hid hbx
  clear hbx
  go_enter Tryd.func39, Tryd.ntmps39
  go_wp2_with (refine wpList_load_row rfl 35 (.tmp 4) rfl (w.heap.size + 1) rfl 35 (u8s l) (0, 0) _ Hbx.out Tryd.underlying35 rfl (by rw [info64b, Hsz.out]) ?_)
  rw [← zeros8]
  obtain ⟨Wa, hWa⟩ : ∃ W, (((w.alloc (.cells (u32s s) 29)).alloc (.cells (u8s l) 35)).alloc (.cells (u32s k) 31)).alloc (.cells (u32s (filled H0 0)) 29) = W := ⟨_, rfl⟩
  have hbel : Below w.heap.size w Wa := by rw [← hWa]; exact ((((Below.refl _ _).alloc (Nat.le_refl _) _).alloc (by simp) _).alloc (by simp; omega) _).alloc (by simp; omega) _
  have hsize : Wa.heap.size = w.heap.size + 1 + 1 + 1 + 1 := by rw [← hWa]; simp
  have hb0 : BlkIs Wa w.heap.size 29 (u32s s) := by
    rw [← hWa]
    exact (BlkIs.new w _ _).here ((((Below.refl _ _).alloc (Nat.le_refl _) _).alloc (by simp) _).alloc (by simp <;> omega) _)
  have hb2 : BlkIs Wa (w.heap.size + 1 + 1) 31 (u32s k) := by
    rw [← hWa]
    have h1 := BlkIs.new ((w.alloc (.cells (u32s s) 29)).alloc (.cells (u8s l) 35)) 31 (u32s k)
    have h2 := h1.here ((Below.refl _ _).alloc (Nat.le_refl _) (.cells (u32s (filled H0 0)) 29))
    simpa using h2
  have hb3 : BlkIs Wa (w.heap.size + 1 + 1 + 1) 29 (u32s (filled H0 0)) := by
    rw [← hWa]
    have h1 := BlkIs.new (((w.alloc (.cells (u32s s) 29)).alloc (.cells (u8s l) 35)).alloc (.cells (u32s k) 31)) 29 (u32s (filled H0 0))
    simpa using h1
  rw [hWa]
  refine (schedule_any Wa l Hl.out Hlb.out).mono ?_
  rintro e w2 ⟨rfl, hbw⟩
  obtain ⟨ws, hws⟩ : ∃ ws, schedN l = ws := ⟨_, rfl⟩
  have hwl : ws.length = 64 := by rw [← hws]; exact schedGo_length l 48
  have hww : Words ws := by rw [← hws]; exact schedGo_words l Hlb.out 48
  have Hws := Lib.hid hws
  have Hwl := Lib.hid hwl
  have Hww := Lib.hid hww
  rw [hws]
  have hB7 : w.heap.size + 1 + 1 + 1 < w2.heap.size := by have := hbw.size; omega
  have hal : Below w2.heap.size w2 (w2.alloc (.cells (u32s (packGo l 0)) 31)) := (Below.refl _ _).alloc (Nat.le_refl _) _
  have hnew : BlkIs (w2.alloc (.cells (u32s (packGo l 0)) 31)) w2.heap.size 31 (u32s (packGo l 0)) := BlkIs.new _ _ _
  have hz : (u32s (packGo l 0)).size = 64 := by rw [u32s_size, packGo_length]
  have hz2 : (u32s ws).size = 64 := by rw [u32s_size, hwl]
  have hgr := grown_setRow (w2.alloc (.cells (u32s (packGo l 0)) 31)) w2.heap.size (u32s ws)
  have hm : MixM w ((w2.alloc (.cells (u32s (packGo l 0)) 31)).setRow w2.heap.size (u32s ws)) w2.heap.size s ws k :=
    ⟨((hb0.here hbw).here hal).grown hgr (by simp; omega), ((hb2.here hbw).here hal).grown hgr (by simp; omega), ((hb3.here hbw).here hal).grown hgr (by simp; omega), heap_setRow_same hnew _, hB7,
     (Below.onR (Below.onR hbel hbw) hal).grown hgr (Below.onR (Below.onR hbel hbw) hal).size (by intro q hq; injection hq with hq; omega)⟩
  have Hm := Lib.hid hm
  have Hnew := Lib.hid hnew
  have Hz := Lib.hid hz
  have Hz2 := Lib.hid hz2
  clear hWa hbel hsize hb0 hb2 hb3 Hbx hws hwl hww hbw hal hnew hz hz2 hgr hm hB7
  go_upto_region 2 with (first
    | (rw [← zeros64, zeros_pack l]; refine wp_store_blk rfl 31 (.tmp 7) (.tmp 22) rfl w2.heap.size rfl (u32s ws) rfl Hnew.out (by rw [info64, Hz2.out]) (by rw [Hz.out, Hz2.out]) (u32s_one _) ?_)
    | fail)
  generalize (w2.alloc (.cells (u32s (packGo l 0)) 31)).setRow w2.heap.size (u32s ws) = W3 at *
  generalize w2.heap.size = b7 at *
  have hm3 := Hm.out
  have c0 : W3.cell? ⟨w.heap.size, 0, none⟩ = some (.int .u32 (s.getD 0 0 : Nat)) := by rw [hm3.hs.cell]; exact u32s_get _ _ (by rw [Hs.out]; decide)
  have c1 : W3.cell? ⟨w.heap.size, 1, none⟩ = some (.int .u32 (s.getD 1 0 : Nat)) := by rw [hm3.hs.cell]; exact u32s_get _ _ (by rw [Hs.out]; decide)
  have c2 : W3.cell? ⟨w.heap.size, 2, none⟩ = some (.int .u32 (s.getD 2 0 : Nat)) := by rw [hm3.hs.cell]; exact u32s_get _ _ (by rw [Hs.out]; decide)
  have c3 : W3.cell? ⟨w.heap.size, 3, none⟩ = some (.int .u32 (s.getD 3 0 : Nat)) := by rw [hm3.hs.cell]; exact u32s_get _ _ (by rw [Hs.out]; decide)
  have c4 : W3.cell? ⟨w.heap.size, 4, none⟩ = some (.int .u32 (s.getD 4 0 : Nat)) := by rw [hm3.hs.cell]; exact u32s_get _ _ (by rw [Hs.out]; decide)
  have c5 : W3.cell? ⟨w.heap.size, 5, none⟩ = some (.int .u32 (s.getD 5 0 : Nat)) := by rw [hm3.hs.cell]; exact u32s_get _ _ (by rw [Hs.out]; decide)
  have c6 : W3.cell? ⟨w.heap.size, 6, none⟩ = some (.int .u32 (s.getD 6 0 : Nat)) := by rw [hm3.hs.cell]; exact u32s_get _ _ (by rw [Hs.out]; decide)
  have c7 : W3.cell? ⟨w.heap.size, 7, none⟩ = some (.int .u32 (s.getD 7 0 : Nat)) := by rw [hm3.hs.cell]; exact u32s_get _ _ (by rw [Hs.out]; decide)
  have e0 := Hsw.out 0
  have e1 := Hsw.out 1
  have e2 := Hsw.out 2
  have e3 := Hsw.out 3
  have e4 := Hsw.out 4
  have e5 := Hsw.out 5
  have e6 := Hsw.out 6
  have e7 := Hsw.out 7
  have hst : St.of s = ⟨s.getD 0 0, s.getD 1 0, s.getD 2 0, s.getD 3 0, s.getD 4 0, s.getD 5 0, s.getD 6 0, s.getD 7 0⟩ := rfl
  generalize s.getD 0 0 = s0 at *
  generalize s.getD 1 0 = s1 at *
  generalize s.getD 2 0 = s2 at *
  generalize s.getD 3 0 = s3 at *
  generalize s.getD 4 0 = s4 at *
  generalize s.getD 5 0 = s5 at *
  generalize s.getD 6 0 = s6 at *
  generalize s.getD 7 0 = s7 at *
  have Hst := Lib.hid hst
  clear hm3 hst
  go_quiet (fail)
  go_wp2
  have Hm4 := Lib.hid (Hm.out.drewN nq)
  have hw0 : Hid (StW ⟨s0, s1, s2, s3, s4, s5, s6, s7⟩) := ⟨e0, e1, e2, e3, e4, e5, e6, e7⟩
  clear Hm e0 e1 e2 e3 e4 e5 e6 e7 c0 c1 c2 c3 c4 c5 c6 c7
  go_loopw [8, 9, 10, 11, 12, 13, 14, 15, 39] (fun ya yb yc yd ye yf yg yh x wr => ∃ (t va vb vc vd ve vf vg vh : Nat), ya = .int .u32 va ∧ yb = .int .u32 vb ∧ yc = .int .u32 vc ∧ yd = .int .u32 vd ∧ ye = .int .u32 ve ∧ yf = .int .u32 vf ∧ yg = .int .u32 vg ∧ yh = .int .u32 vh ∧ x = .int .i64 t ∧ t ≤ 64 ∧ Hid (StW ⟨va, vb, vc, vd, ve, vf, vg, vh⟩) ∧ MixM w wr b7 s ws k ∧ Hid (rounds k ws (St.of s) t = ⟨va, vb, vc, vd, ve, vf, vg, vh⟩)) (fun _ _ _ _ _ _ _ _ x _ => 64 - (intOf x).toNat)
  case atStart => exact ⟨0, s0, s1, s2, s3, s4, s5, s6, s7, rfl, rfl, rfl, rfl, rfl, rfl, rfl, rfl, rfl, by omega, hw0, Hm4.out, Hst.out⟩
  case round =>
    obtain ⟨t, va, vb, vc, vd, ve, vf, vg, vh, rfl, rfl, rfl, rfl, rfl, rfl, rfl, rfl, rfl, ht, hv, hm, hr⟩ := hrel
    have Hm := Lib.hid hm
    clear Hm4 Hst hw0 hm
    by_cases hlt : t < 64
    · have ck : ∀ W, MixM w W b7 s ws k → W.cell? ⟨w.heap.size + 1 + 1, t, none⟩ = some (.int .u32 (k.getD t 0 : Nat)) ∧ W.cell? ⟨b7, t, none⟩ = some (.int .u32 (ws.getD t 0 : Nat)) := fun W hW =>
        ⟨by rw [hW.hk.cell]; exact u32s_get _ _ (by rw [Hk.out]; exact hlt), by rw [hW.hw.cell]; exact u32s_get _ _ (by rw [Hwl.out]; exact hlt)⟩
      have hk1 := Hkw.out t
      have hw1 := Hww.out t
      have hstep : rounds k ws (St.of s) (t + 1) = rnd ⟨va, vb, vc, vd, ve, vf, vg, vh⟩ (k.getD t 0) (ws.getD t 0) := by rw [rounds, hr.out]
      generalize k.getD t 0 = kt at *
      generalize ws.getD t 0 = wt at *
      have Hstep := Lib.hid hstep
      have Hck := Lib.hid ck
      have S0 := Lib.hid (ck wr.drew Hm.out.drew)
      have i0 : (0 : Int) ≤ (t : Int) := by omega
      have i1 : (t : Int) < 64 := by omega
      have V := hv.out
      have va' := V.a
      have vb' := V.b
      have vc' := V.c
      have ve' := V.e
      have vf' := V.f
      have vg' := V.g
      simp only at va' vb' vc' ve' vf' vg'
      clear V ck hstep hr
      go_upto_region 6 with fail
      go_cut [17] (fun y wx => y = .int .u32 (t1N ⟨va, vb, vc, vd, ve, vf, vg, vh⟩ kt wt : Nat) ∧ MixM w wx b7 s ws k)
      case first =>
        go_region_held3 (fun W => W.cell? ⟨w.heap.size + 1 + 1, t, none⟩ = some (.int .u32 (kt : Nat)) ∧ W.cell? ⟨b7, t, none⟩ = some (.int .u32 (wt : Nat)))
          (first
            | exact S0.out
            | exact S1.out)
          (first
            | (go_at_call 49; (with_reducible refine (big1_any _ ve ve').mono ?_); rintro e w4 ⟨rfl, hb4⟩
               have M4 := Lib.hid (Hm.out.drew.here hb4)
               have S1 := Lib.hid (Hck.out w4 (Hm.out.drew.here hb4))
               clear hb4)
            | (go_at_call 50; (with_reducible refine (choose_any _ ve vf vg ve' vf' vg').mono ?_); rintro e w' ⟨rfl, rfl⟩))
        go_wp2_with fail
        go_meet
        exact ⟨by rw [add32_cast, add32_cast, add32_cast, add32_cast]; rfl, M4.out⟩
      case rest =>
        obtain ⟨rfl, hm5⟩ := hcut
        have Hm5 := Lib.hid hm5
        obtain ⟨T1, hT1⟩ : ∃ T, t1N ⟨va, vb, vc, vd, ve, vf, vg, vh⟩ kt wt = T := ⟨_, rfl⟩
        obtain ⟨T2, hT2⟩ : ∃ T, t2N ⟨va, vb, vc, vd, ve, vf, vg, vh⟩ = T := ⟨_, rfl⟩
        have hres : rounds k ws (St.of s) (t + 1) = ⟨add32 T1 T2, va, vb, vc, add32 vd T1, ve, vf, vg⟩ := by rw [Hstep.out, rnd, hT1, hT2]
        have E1 : IntKind.u32.wrap (((big0N va : Nat) : Int) + ((mostN va vb vc : Nat) : Int)) = (T2 : Int) := by rw [add32_cast, ← hT2]; rfl
        have E2 : IntKind.u32.wrap ((T1 : Int) + (T2 : Int)) = ((add32 T1 T2 : Nat) : Int) := add32_cast _ _
        have E3 : IntKind.u32.wrap ((vd : Int) + (T1 : Int)) = ((add32 vd T1 : Nat) : Int) := add32_cast _ _
        have Hres := Lib.hid hres
        have HV : Hid (StW ⟨add32 T1 T2, va, vb, vc, add32 vd T1, ve, vf, vg⟩) := ⟨add32_lt _ _, va', vb', vc', add32_lt _ _, ve', vf', vg'⟩
        rw [hT1]
        clear hres hm5 hT1 hT2 Hm Hstep S0 Hck hv
        go_wp2_with fail
        refine (big0_any _ va va').mono ?_
        rintro e w6 ⟨rfl, hb6⟩
        have Hm6 := Lib.hid (Hm5.out.here hb6)
        clear hb6
        go_wp2_with fail
        refine (most_any _ va vb vc va' vb' vc').mono ?_
        rintro e w' ⟨rfl, rfl⟩
        go_wp2
        go_roundw
        case rel =>
          exact ⟨t + 1, add32 T1 T2, va, vb, vc, add32 vd T1, ve, vf, vg, rfl, rfl, rfl, rfl, rfl, rfl, rfl, rfl, by go_num, by omega, HV.out, Hm6.out, Hres.out⟩
        case measure => simp [intOf]; omega
    · obtain rfl : t = 64 := by omega
      have hmix : Hid (mixedN s l k = plusGo s [va, vb, vc, vd, ve, vf, vg, vh] 8) := by
        unfold Hid mixedN
        rw [Hws.out, hr.out]
        rfl
      clear hlt ht hv hr
      go_wp2
      go_loopw [88] (fun x wr => ∃ i : Nat, x = .int .i64 i ∧ i ≤ 8 ∧ MixM w wr b7 (plusGo s [va, vb, vc, vd, ve, vf, vg, vh] i) ws k) (fun x _ => 8 - (intOf x).toNat)
      case atStart => exact ⟨0, rfl, by omega, Hm.out⟩
      case round =>
        obtain ⟨i, rfl, hi, hm⟩ := hrel
        have Hm6 := Lib.hid hm
        clear Hm
        by_cases hlt : i < 8
        · have hgl : i < (plusGo s [va, vb, vc, vd, ve, vf, vg, vh] i).length := by rw [plusGo_length, Hs.out]; exact hlt
          have hix := fun W => run_index_arr W 29 28 8 .u32 Tryd.underlying29 Tryd.underlying28 (by kernel_rfl) #[.int .u32 (va : Nat), .int .u32 (vb : Nat), .int .u32 (vc : Nat), .int .u32 (vd : Nat), .int .u32 (ve : Nat), .int .u32 (vf : Nat), .int .u32 (vg : Nat), .int .u32 (vh : Nat)] i _ hlt (u32s_get [va, vb, vc, vd, ve, vf, vg, vh] i hlt)
          have c1 : wr.cell? ⟨w.heap.size, i, none⟩ = some (.int .u32 ((plusGo s [va, vb, vc, vd, ve, vf, vg, vh] i).getD i 0 : Nat)) := by rw [hm.hs.cell]; exact u32s_get _ _ hgl
          have f1 := hm.hs.frozen i
          have hstep : plusGo s [va, vb, vc, vd, ve, vf, vg, vh] (i + 1) = (plusGo s [va, vb, vc, vd, ve, vf, vg, vh] i).set i (add32 ((plusGo s [va, vb, vc, vd, ve, vf, vg, vh] i).getD i 0) (([va, vb, vc, vd, ve, vf, vg, vh] : List Nat).getD i 0)) := rfl
          generalize (plusGo s [va, vb, vc, vd, ve, vf, vg, vh] i).getD i 0 = p at *
          generalize ([va, vb, vc, vd, ve, vf, vg, vh] : List Nat).getD i 0 = q at *
          have E1 : IntKind.u32.wrap ((p : Int) + (q : Int)) = ((add32 p q : Nat) : Int) := add32_cast _ _
          have Hstep := Lib.hid hstep
          have i1 : (i : Int) < 8 := by omega
          have i0 : (0 : Int) ≤ i := by omega
          clear hm hgl hstep
          go_wp2
          go_roundw
          case rel =>
            have hs := Hm6.out.hs.set i (.int .u32 ((add32 p q : Nat) : Int))
            rw [u32s_set, ← Hstep.out] at hs
            have hgr := grown_set wr w.heap.size i (.int .u32 ((add32 p q : Nat) : Int))
            have hb7 := Hm6.out.hb7
            exact ⟨i + 1, by go_num, by omega, ⟨hs, Hm6.out.hk.grown hgr (by simp; omega), Hm6.out.hr.grown hgr (by simp; omega), Hm6.out.hw.grown hgr (by simp; omega), hb7, Hm6.out.below.grown hgr Hm6.out.below.size (by intro q hq; injection hq with hq; omega)⟩⟩
          case measure => simp [intOf]; omega
        · obtain rfl : i = 8 := by omega
          rw [← hmix.out] at Hm6
          have hz1 : (u32s (mixedN s l k)).size = 8 := by rw [u32s_size, mixedN_length, Hs.out]
          have hz0 : (u32s (filled H0 0)).size = 8 := by rw [u32s_size, filled_length _ _ (Nat.zero_le _), H0_length]
          have Hz1 := Lib.hid hz1
          have Hz0 := Lib.hid hz0
          clear hm hz1 hz0 hlt hi
          go_wp2_with (first
            | (refine wpList_load_row rfl 29 (.tmp 3) rfl w.heap.size rfl 29 (u32s (mixedN s l k)) (0, 0) _ Hm6.out.hs Tryd.underlying29 rfl (by rw [info8, Hz1.out]) ?_)
            | (refine wp_store_blk rfl 29 (.tmp 6) (.tmp 99) rfl (w.heap.size + 1 + 1 + 1) rfl (u32s (mixedN s l k)) rfl Hm6.out.hr (by rw [info8, Hz1.out]) (by rw [Hz0.out, Hz1.out]) (u32s_one _) ?_))
          refine bodyPost_ret (results_cell_row rfl _ _ (w.heap.size + 1 + 1 + 1) 29 (u32s (mixedN s l k)) (0, 0) _ rfl (heap_setRow_same Hm6.out.hr _) Tryd.underlying29 rfl (by rw [info8, Hz1.out])) rfl ?_
          exact ⟨rfl, Hm6.out.below.grown (grown_setRow _ _ _) Hm6.out.below.size (by intro k hk; injection hk with hk; omega)⟩
end Go.Proofs.YtpgjnmakpghamaaDoor

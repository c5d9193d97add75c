/- Contract: the words of a block. -/
import Derived.Test.YtpgjnmakpghamaaDoorDgPure
import Derived.Deep.RegionHeld3
namespace Go.Proofs.YtpgjnmakpghamaaDoor
open Go.RowKit
set_option linter.unusedVariables false

/-- Bytes, as cells. -/
def u8s (l : List Nat) : Array Value := (l.map fun x : Nat => Value.int .u8 (x : Int)).toArray
theorem u8s_size (l : List Nat) : (u8s l).size = l.length := by simp [u8s]
theorem u8s_get (l : List Nat) (i : Nat) (h : i < l.length) : (u8s l)[i]? = some (.int .u8 (l.getD i 0 : Nat)) := by simp [u8s, List.getD, h]
theorem u8s_one (l : List Nat) : (u8s l).all (·.oneCell') = true := by
  refine Array.all_eq_true_iff_forall_mem.2 fun v hv => ?_
  simp only [u8s, List.mem_toArray, List.mem_map] at hv
  obtain ⟨x, _, rfl⟩ := hv
  rfl
theorem info64b : (Tryd.prog.info? 35).map (·.size) = some 64 := by kernel_rfl

theorem packGo_length (l : List Nat) : ∀ i, (packGo l i).length = 64
  | 0 => by simp [packGo]
  | i + 1 => by rw [packGo, List.length_set, packGo_length l i]
theorem schedGo_length (l : List Nat) : ∀ k, (schedGo l k).length = 64
  | 0 => packGo_length l 64
  | k + 1 => by rw [schedGo, List.length_set, schedGo_length l k]
/-- All its numbers are words. -/
def Words (l : List Nat) : Prop := ∀ i, l.getD i 0 < 4294967296
theorem Words.set {l : List Nat} (h : Words l) (i x : Nat) (hx : x < 4294967296) : Words (l.set i x) := fun j => by
  have := h j
  rw [List.getD] at this ⊢
  rw [List.getElem?_set]
  split
  · split
    · exact hx
    · exact (by omega : (0 : Nat) < 4294967296)
  · exact this
theorem packGo_words (l : List Nat) (hl : ∀ i, l.getD i 0 < 256) : ∀ i, Words (packGo l i)
  | 0 => fun j => by
    rw [packGo, List.getD, List.getElem?_replicate]
    split <;> decide
  | i + 1 => by
    rw [packGo]
    exact (packGo_words l hl i).set _ _ (or_lt _ _ (Nat.mod_lt _ (by omega)) (Nat.lt_trans (hl i) (by omega)))
theorem schedGo_words (l : List Nat) (hl : ∀ i, l.getD i 0 < 256) : ∀ k, Words (schedGo l k)
  | 0 => packGo_words l hl 64
  | k + 1 => by
    rw [schedGo]
    exact (schedGo_words l hl k).set _ _ (add32_lt _ _)
theorem add32_cast (a b : Nat) : IntKind.u32.wrap ((a : Int) + (b : Int)) = ((add32 a b : Nat) : Int) := by
  rw [IntKind.wrap_u32', add32]
  omega
theorem zeros_pack (l : List Nat) : u32s (filled K0 0) = u32s (packGo l 0) := by rw [filled_zero, K0_length]; rfl

set_option maxRecDepth 100000 in
theorem schedule_any (w : World) (l : List Nat) (hlen : l.length = 64) (hl : ∀ i, l.getD i 0 < 256) :
    Calls Tryd.prog 48 #[.agg (u8s l)] w fun e w' => e = .returned (.agg (u32s (schedN l))) ∧ Below w.heap.size w w' := by
  have Hl := Lib.hid hl
  have Hsz : Hid ((u8s l).size = 64) := by unfold Hid; rw [u8s_size, hlen]
  have Hlen := Lib.hid hlen
  clear hl hlen
  go_enter Tryd.func48, Tryd.ntmps48
  go_wp2_with (refine wpList_load_row rfl 35 (.tmp 1) rfl w.heap.size rfl 35 (u8s l) (0, 0) _ ((BlkIs.new w _ _).here (((Below.refl _ _).alloc (Nat.le_refl _) _).alloc (by simp) _)) Tryd.underlying35 rfl (by rw [info64b, Hsz.out]) ?_)
  rw [← zeros64, zeros_pack l]
  obtain ⟨W0, hW0⟩ : ∃ W, ((w.alloc (.cells (u8s l) 35)).alloc (.cells (u32s (packGo l 0)) 31)).alloc (.cells (u32s (packGo l 0)) 31) = W := ⟨_, rfl⟩
  have hbel : Below w.heap.size w W0 := by rw [← hW0]; exact (((Below.refl _ _).alloc (Nat.le_refl _) _).alloc (by simp) _).alloc (by simp; omega) _
  have hb0 : BlkIs W0 (w.heap.size + 1) 31 (u32s (packGo l 0)) := by
    rw [← hW0]
    have := (BlkIs.new (w.alloc (.cells (u8s l) 35)) 31 (u32s (packGo l 0))).here ((Below.refl _ _).alloc (Nat.le_refl _) (.cells (u32s (packGo l 0)) 31))
    simpa using this
  have hb1 : BlkIs W0 (w.heap.size + 1 + 1) 31 (u32s (packGo l 0)) := by
    rw [← hW0]
    simpa using BlkIs.new ((w.alloc (.cells (u8s l) 35)).alloc (.cells (u32s (packGo l 0)) 31)) 31 (u32s (packGo l 0))
  rw [hW0]
  have Hb0 := Lib.hid hb0
  have Hb1 := Lib.hid hb1
  have Hbel := Lib.hid hbel
  clear hW0 hb0 hb1 hbel
  go_loopw [8] (fun x wr => ∃ i : Nat, x = .int .i64 i ∧ i ≤ 64 ∧ BlkIs wr (w.heap.size + 1) 31 (u32s (packGo l 0)) ∧ BlkIs wr (w.heap.size + 1 + 1) 31 (u32s (packGo l i)) ∧ Below w.heap.size w wr) (fun x _ => 64 - (intOf x).toNat)
  case atStart => exact ⟨0, rfl, by omega, Hb0.out, Hb1.out, Hbel.out⟩
  case round =>
    obtain ⟨i, rfl, hi, hb0, hb1, hbel⟩ := hrel
    clear Hb0 Hb1 Hbel
    have Hb0 := Lib.hid hb0
    have Hb1 := Lib.hid hb1
    have Hbel := Lib.hid hbel
    by_cases hlt : i < 64
    · have hix := fun W => run_index_arr W 35 5 64 .u8 Tryd.underlying35 Tryd.underlying5 (by kernel_rfl) (u8s l) i _ hlt (u8s_get l i (by rw [Hlen.out]; exact hlt))
      have hc := Hl.out i
      have hq : i / 4 < (packGo l i).length := by rw [packGo_length]; omega
      have c1 : wr.cell? ⟨w.heap.size + 1 + 1, i / 4, none⟩ = some (.int .u32 ((packGo l i).getD (i / 4) 0 : Nat)) := by rw [hb1.cell]; exact u32s_get _ _ hq
      have f1 := hb1.frozen (i / 4)
      have hstep : Hid (packGo l (i + 1) = (packGo l i).set (i / 4) (((packGo l i).getD (i / 4) 0 * 256 % 4294967296) ||| l.getD i 0)) := rfl
      generalize l.getD i 0 = c at *
      generalize (packGo l i).getD (i / 4) 0 = x at *
      have hv : bits .or .u32 ((x : Int) * 256 % 4294967296) (c : Int) = (((x * 256 % 4294967296) ||| c : Nat) : Int) := by
        rw [show ((x : Int) * 256 % 4294967296) = ((x * 256 % 4294967296 : Nat) : Int) by omega, u32_or_nat _ _ (Nat.mod_lt _ (by omega)) (by omega)]
      have Hv := Lib.hid hv
      have i1 : (i : Int) < 64 := by omega
      have i0 : (0 : Int) ≤ i := by omega
      clear hb0 hb1 hbel hq hv
      go_wp2
      rw [Hv.out]
      go_roundw
      case rel =>
        have hs := Hb1.out.set (i / 4) (.int .u32 (((x * 256 % 4294967296) ||| c : Nat) : Int))
        rw [u32s_set, ← hstep.out] at hs
        exact ⟨i + 1, by go_num, by omega, (Hb0.out.grown (row := some (w.heap.size + 1 + 1)) (grown_set wr _ _ _) (by simp)), hs, Hbel.out.grown (grown_set wr _ _ _) Hbel.out.size (by intro k hk; injection hk with hk; omega)⟩
      case measure => simp [intOf]; omega
    · obtain rfl : i = 64 := by omega
      have hst : BlkIs wr (w.heap.size + 1 + 1) 31 (u32s (schedGo l 0)) := hb1
      have Hst := Lib.hid hst
      clear hb0 hb1 hbel hst Hb1 hlt hi
      go_wp2
      go_loopw [6] (fun x wr => ∃ k : Nat, x = .int .i64 (k + 16 : Nat) ∧ k ≤ 48 ∧ BlkIs wr (w.heap.size + 1) 31 (u32s (packGo l 0)) ∧ BlkIs wr (w.heap.size + 1 + 1) 31 (u32s (schedGo l k)) ∧ Below w.heap.size w wr) (fun x _ => 64 - (intOf x).toNat)
      case atStart => exact ⟨0, rfl, by omega, Hb0.out, Hst.out, Hbel.out⟩
      case round =>
        obtain ⟨k, rfl, hk, hb0, hb1, hbel⟩ := hrel
        clear Hb0 Hst Hbel
        have Hb0 := Lib.hid hb0
        have Hb1 := Lib.hid hb1
        have Hbel := Lib.hid hbel
        by_cases hlt : k < 48
        · have hw := schedGo_words l Hl.out k
          have cat : ∀ j, j < 64 → ∀ W, BlkIs W (w.heap.size + 1 + 1) 31 (u32s (schedGo l k)) → W.cell? ⟨w.heap.size + 1 + 1, j, none⟩ = some (.int .u32 ((schedGo l k).getD j 0 : Nat)) := fun j hj W hW => by
            rw [hW.cell]
            exact u32s_get _ _ (by rw [schedGo_length]; exact hj)
          have hstep : Hid (schedGo l (k + 1) = (schedGo l k).set (k + 16) (add32 (add32 (add32 (small1N ((schedGo l k).getD (k + 14) 0)) ((schedGo l k).getD (k + 9) 0)) (small0N ((schedGo l k).getD (k + 1) 0))) ((schedGo l k).getD k 0))) := rfl
          have a1 := hw (k + 14)
          have a2 := hw (k + 9)
          have a3 := hw (k + 1)
          have a4 := hw k
          have hS : ∀ W, BlkIs W (w.heap.size + 1 + 1) 31 (u32s (schedGo l k)) →
              W.cell? ⟨w.heap.size + 1 + 1, k + 14, none⟩ = some (.int .u32 ((schedGo l k).getD (k + 14) 0 : Nat)) ∧ W.cell? ⟨w.heap.size + 1 + 1, k + 9, none⟩ = some (.int .u32 ((schedGo l k).getD (k + 9) 0 : Nat)) ∧
              W.cell? ⟨w.heap.size + 1 + 1, k + 1, none⟩ = some (.int .u32 ((schedGo l k).getD (k + 1) 0 : Nat)) ∧ W.cell? ⟨w.heap.size + 1 + 1, k, none⟩ = some (.int .u32 ((schedGo l k).getD k 0 : Nat)) :=
            fun W hW => ⟨cat _ (by omega) W hW, cat _ (by omega) W hW, cat _ (by omega) W hW, cat _ (by omega) W hW⟩
          have hT : ∀ W, BlkIs W (w.heap.size + 1 + 1) 31 (u32s (schedGo l k)) →
              W.cell? ⟨w.heap.size + 1 + 1, k + 16, none⟩ = some (.int .u32 ((schedGo l k).getD (k + 16) 0 : Nat)) ∧ W.frozen? ⟨w.heap.size + 1 + 1, k + 16, none⟩ = false :=
            fun W hW => ⟨cat _ (by omega) W hW, hW.frozen _⟩
          generalize (schedGo l k).getD (k + 14) 0 = x1 at *
          generalize (schedGo l k).getD (k + 9) 0 = x2 at *
          generalize (schedGo l k).getD (k + 1) 0 = x3 at *
          generalize (schedGo l k).getD k 0 = x4 at *
          generalize (schedGo l k).getD (k + 16) 0 = x5 at *
          have HS := Lib.hid hS
          have HT := Lib.hid hT
          have S0 := Lib.hid (hS wr.drew hb1)
          have Hbd := Lib.hid (BlkIs.range hb1)
          have b1 : decide ((k : Int) + 16 < 64) = true := by simp; omega
          have j1 : IntKind.i64.wrap ((k : Int) + 16 - 2) = (k : Int) + 14 := by rw [IntWalk.i64_in _ (by omega)]; omega
          have j2 : IntKind.i64.wrap ((k : Int) + 16 - 7) = (k : Int) + 9 := by rw [IntWalk.i64_in _ (by omega)]; omega
          have j3 : IntKind.i64.wrap ((k : Int) + 16 - 15) = (k : Int) + 1 := by rw [IntWalk.i64_in _ (by omega)]; omega
          have j4 : IntKind.i64.wrap (k : Int) = (k : Int) := by rw [IntWalk.i64_in _ (by omega)]
          have t1 : ((k : Int) + 14).toNat = k + 14 := by omega
          have t2 : ((k : Int) + 9).toNat = k + 9 := by omega
          have t3 : ((k : Int) + 1).toNat = k + 1 := by omega
          have t4 : ((k : Int) + 16).toNat = k + 16 := by omega
          have q1 : (k : Int) + 14 < 64 := by omega
          have q2 : (k : Int) + 9 < 64 := by omega
          have q3 : (k : Int) + 1 < 64 := by omega
          have q4 : (k : Int) + 16 < 64 := by omega
          have q5 : (k : Int) < 64 := by omega
          have r1 : (0 : Int) ≤ (k : Int) + 14 := by omega
          have r2 : (0 : Int) ≤ (k : Int) + 9 := by omega
          have r3 : (0 : Int) ≤ (k : Int) + 1 := by omega
          have r4 : (0 : Int) ≤ (k : Int) + 16 := by omega
          have r5 : (0 : Int) ≤ (k : Int) := by omega
          clear cat hS hT hw hb0 hb1 hbel
          go_upto_region 10 with fail
          go_region_held3 (fun W => W.cell? ⟨w.heap.size + 1 + 1, k + 14, none⟩ = some (.int .u32 (x1 : Nat)) ∧ W.cell? ⟨w.heap.size + 1 + 1, k + 9, none⟩ = some (.int .u32 (x2 : Nat)) ∧
              W.cell? ⟨w.heap.size + 1 + 1, k + 1, none⟩ = some (.int .u32 (x3 : Nat)) ∧ W.cell? ⟨w.heap.size + 1 + 1, k, none⟩ = some (.int .u32 (x4 : Nat)))
            (first
              | exact S0.out
              | exact S1.out
              | exact S2.out
              | exact ⟨(World.cell?_setCell_other _ _ _ _ (fun e => by have h : k + 16 = k + 14 := congrArg Addr.off e; omega)).trans S2.out.1, (World.cell?_setCell_other _ _ _ _ (fun e => by have h : k + 16 = k + 9 := congrArg Addr.off e; omega)).trans S2.out.2.1,
                  (World.cell?_setCell_other _ _ _ _ (fun e => by have h : k + 16 = k + 1 := congrArg Addr.off e; omega)).trans S2.out.2.2.1, (World.cell?_setCell_other _ _ _ _ (fun e => by have h : k + 16 = k := congrArg Addr.off e; omega)).trans S2.out.2.2.2⟩)
            (first
              | (go_at_call 55; (with_reducible refine (small1_any _ x1 a1).mono ?_); rintro e w2 ⟨rfl, hb2⟩
                 have B2 := Lib.hid hb2
                 have S1 := Lib.hid (HS.out w2 (BlkIs.here (w := wr.drew) Hb1.out hb2))
                 clear hb2)
              | (go_at_call 56; (with_reducible refine (small0_any _ x3 a3).mono ?_); rintro e w3 ⟨rfl, hb3⟩
                 have B3 := Lib.hid (Below.onR (w := wr.drew) B2.out hb3)
                 have S2 := Lib.hid (HS.out w3 (BlkIs.here (w := wr.drew) Hb1.out (Below.onR (w := wr.drew) B2.out hb3)))
                 have hT3 := HT.out w3 (BlkIs.here (w := wr.drew) Hb1.out (Below.onR (w := wr.drew) B2.out hb3))
                 have T1 := hT3.1
                 have T2 := hT3.2
                 clear hb3 hT3))
          have hval : IntKind.u32.wrap (IntKind.u32.wrap (IntKind.u32.wrap (((small1N x1 : Nat) : Int) + (x2 : Int)) + ((small0N x3 : Nat) : Int)) + (x4 : Int)) = ((add32 (add32 (add32 (small1N x1) x2) (small0N x3)) x4 : Nat) : Int) := by
            rw [add32_cast, add32_cast, add32_cast]
          rw [hval]
          go_wp2
          go_roundw
          case rel =>
            have hs := (BlkIs.here (w := wr.drew) Hb1.out B3.out).set (k + 16) (.int .u32 ((add32 (add32 (add32 (small1N x1) x2) (small0N x3)) x4 : Nat) : Int))
            rw [u32s_set, ← hstep.out] at hs
            have hB : Below w.heap.size w w3 := (Hbel.out.drew).trans (B3.out.mono Hbel.out.size)
            refine' ⟨_, _, _, _, _, _, _, _, _, _, _, _, _, _, _, _, _, _, _, _, _, _, _, _, _, _, _, _, ?main, rfl⟩
            case main => exact ⟨k + 1, by go_num, by omega, (BlkIs.here (w := wr.drew) Hb0.out B3.out).grown (row := some (w.heap.size + 1 + 1)) (grown_set w3 _ _ _) (by simp), hs, hB.grown (grown_set w3 _ _ _) hB.size (by intro k hk; injection hk with hk; omega)⟩
            all_goals exact undef
          case measure => simp [intOf]; omega
        · obtain rfl : k = 48 := by omega
          have hend : BlkIs wr (w.heap.size + 1 + 1) 31 (u32s (schedN l)) := hb1
          have Hend := Lib.hid hend
          have hsz : (u32s (schedN l)).size = 64 := by rw [u32s_size]; exact schedGo_length l 48
          have hs0 : (u32s (packGo l 0)).size = 64 := by rw [u32s_size, packGo_length]
          have Hs1 := Lib.hid hsz
          have Hs0 := Lib.hid hs0
          clear hb0 hb1 hbel Hb1 hend hsz hs0 hlt hk
          go_wp2_with (first
            | (refine wpList_load_row rfl 31 (.tmp 3) rfl (w.heap.size + 1 + 1) rfl 31 (u32s (schedN l)) (0, 0) _ Hend.out Tryd.underlying31 rfl (by rw [info64, Hs1.out]) ?_)
            | (refine wp_store_blk rfl 31 (.tmp 2) (.tmp 51) rfl (w.heap.size + 1) rfl (u32s (schedN l)) rfl Hb0.out (by rw [info64, Hs1.out]) (by rw [Hs0.out, Hs1.out]) (u32s_one _) ?_))
          refine bodyPost_ret (results_cell_row rfl _ _ (w.heap.size + 1) 31 (u32s (schedN l)) (0, 0) _ rfl (heap_setRow_same Hb0.out _) Tryd.underlying31 rfl (by rw [info64, Hs1.out])) rfl ?_
          exact ⟨rfl, Hbel.out.grown (grown_setRow _ _ _) Hbel.out.size (by intro k hk; injection hk with hk; omega)⟩
end Go.Proofs.YtpgjnmakpghamaaDoor

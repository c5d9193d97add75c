/- Parse of every string of 64 bytes. -/
import Derived.Test.YtpgjnmakpghamaaDoorDgIndex
namespace Go.Proofs.YtpgjnmakpghamaaDoor
open Go.RowKit
set_option linter.unusedVariables false

/-- The i-th byte of a string. -/
def bs (s : ByteArray) (i : Nat) : Nat := (s.data.toList.getD i 0).toNat
theorem bs_lt (s : ByteArray) (i : Nat) : bs s i < 256 := (s.data.toList.getD i 0).toNat_lt
def okTo (s : ByteArray) (i : Nat) : Prop := ∀ j, j < i → 0 ≤ digV (bs s j)
def pdg (s : ByteArray) : List Nat := (List.range 32).map fun i => (digV (bs s (2 * i))).toNat * 16 + (digV (bs s (2 * i + 1))).toNat
theorem pdg_length (s : ByteArray) : (pdg s).length = 32 := by simp [pdg]
theorem pdg_at (s : ByteArray) (i : Nat) (h : i < 32) : (pdg s).getD i 0 = (digV (bs s (2 * i))).toNat * 16 + (digV (bs s (2 * i + 1))).toNat := by
  rw [pdg, List.getD, List.getElem?_map, List.getElem?_range h]
  rfl
/-- What Parse returns. -/
def Parsed (s : ByteArray) (R : List Nat) (E : Int) : Prop := (okTo s 64 ∧ R = pdg s ∧ E = 0) ∨ (¬ okTo s 64 ∧ R = noDigest ∧ E = 2)
theorem run_index_s (w : World) (s : ByteArray) (j : Nat) (hj : j < s.size) : (Instr.index 9 (.string s) (.int .i64 (j : Int))).run Tryd.prog w = .ok (.int .u8 ((bs s j : Nat) : Int)) w := by
  have hl : j < s.data.toList.length := by rw [Array.length_toList]; exact hj
  have := run_index_str w s.data.toList j (bs s j) (s.data.toList.getD j 0) (by rw [List.getD, List.getElem?_eq_getElem hl]; rfl) rfl
  exact this

set_option maxRecDepth 100000 in
set_option maxHeartbeats 1000000 in
theorem parse_any (w : World) (s : ByteArray) (hsz : s.size = 64) (R : List Nat) (E : Int) (hR : Parsed s R E) :
    Calls Tryd.prog 8 #[.string s] w fun e w' => e = .returned (.tuple #[.agg (u8s R), .int .i64 E]) ∧ Below w.heap.size w w' := by
  have HR := Lib.hid hR
  obtain ⟨d, hd⟩ : ∃ d, pdg s = d := ⟨_, rfl⟩
  have hdl : d.length = 32 := by rw [← hd, pdg_length]
  have hat : ∀ i, i < 32 → d.getD i 0 = (digV (bs s (2 * i))).toNat * 16 + (digV (bs s (2 * i + 1))).toNat := fun i hi => by rw [← hd]; exact pdg_at s i hi
  have HD := Lib.hid hd
  have Hd := Lib.hid hdl
  have Hat := Lib.hid hat
  have hix : ∀ (W : World) (j : Nat), j < 64 → (Instr.index 9 (.string s) (.int .i64 (j : Int))).run Tryd.prog W = .ok (.int .u8 ((bs s j : Nat) : Int)) W := fun W j hj => run_index_s W s j (by omega)
  have Hix := Lib.hid hix
  have hf0 : noDigest = filled d 0 := by rw [filled_zero, hdl]; rfl
  have hal : Below w.heap.size w ((w.alloc (.cells (u8s noDigest) 23)).alloc (.cells (u8s noDigest) 23)) := ((Below.refl _ _).alloc (Nat.le_refl _) _).alloc (by simp) _
  have hr := (BlkIs.new w 23 (u8s noDigest)).here ((Below.refl _ _).alloc (Nat.le_refl _) (.cells (u8s noDigest) 23))
  have hr2 : BlkIs ((w.alloc (.cells (u8s noDigest) 23)).alloc (.cells (u8s noDigest) 23)) (w.heap.size + 1) 23 (u8s (filled d 0)) := by rw [← hf0]; simpa using BlkIs.new (w.alloc (.cells (u8s noDigest) 23)) 23 (u8s noDigest)
  have Hal := Lib.hid hal
  have Hr := Lib.hid hr
  have Hr2 := Lib.hid hr2
  have hz32 : (u8s noDigest).size = 32 := by rw [u8s_size, noDigest_length]
  have Hz32 := Lib.hid hz32
  have eb : (((s.size : Nat) : Int) != 64) = false := by simp; omega
  clear hal hr hr2 hz32 hf0 hd hdl hat hix hsz hR
  go_enter Tryd.func8, Tryd.ntmps8
  go_wp2
  rw [← zerosN]
  generalize (w.alloc (.cells (u8s noDigest) 23)).alloc (.cells (u8s noDigest) 23) = W0 at *
  go_loopw [12] (fun x wr => ∃ i : Nat, x = .int .i64 i ∧ i ≤ 32 ∧ BlkIs wr w.heap.size 23 (u8s noDigest) ∧ BlkIs wr (w.heap.size + 1) 23 (u8s (filled d i)) ∧ Below w.heap.size w wr ∧ Hid (okTo s (2 * i))) (fun x _ => 32 - (intOf x).toNat)
  case atStart => exact ⟨0, rfl, by omega, Hr.out, Hr2.out, Hal.out, fun j hj => absurd hj (by omega)⟩
  case round =>
    obtain ⟨i, rfl, hi, hr, hr2, hbel, hok⟩ := hrel
    clear Hr Hr2 Hal
    have Hr := Lib.hid hr
    have Hr2 := Lib.hid hr2
    have Hbel := Lib.hid hbel
    by_cases hlt : i < 32
    · have hi1 := fun W => Hix.out W (2 * i) (by omega)
      have hi2 := fun W => Hix.out W (2 * i + 1) (by omega)
      have e1 : ((2 * i : Nat) : Int) = 2 * (i : Int) := by omega
      have e2 : ((2 * i + 1 : Nat) : Int) = 2 * (i : Int) + 1 := by omega
      rw [e1] at hi1
      rw [e2] at hi2
      have X1 := Lib.hid (fun W => index_any W (bs s (2 * i)) (bs_lt s _))
      have X2 := Lib.hid (fun W => index_any W (bs s (2 * i + 1)) (bs_lt s _))
      have b1 := digV_bounds (bs s (2 * i))
      have b2 := digV_bounds (bs s (2 * i + 1))
      have hset := filled_set d i (by rw [Hd.out]; exact hlt)
      rw [Hat.out i hlt] at hset
      have hbad1 : digV (bs s (2 * i)) < 0 → ¬ okTo s 64 := fun h hok => by have := hok (2 * i) (by omega); omega
      have hbad2 : digV (bs s (2 * i + 1)) < 0 → ¬ okTo s 64 := fun h hok => by have := hok (2 * i + 1) (by omega); omega
      have hgood : 0 ≤ digV (bs s (2 * i)) → 0 ≤ digV (bs s (2 * i + 1)) → okTo s (2 * (i + 1)) := fun h1 h2 j hj => by
        by_cases ea : j = 2 * i
        · rw [ea]; exact h1
        · by_cases eb : j = 2 * i + 1
          · rw [eb]; exact h2
          · exact hok.out j (by omega)
      have c1 : wr.cell? ⟨w.heap.size + 1, i, none⟩ = some (.int .u8 ((filled d i).getD i 0 : Nat)) := by rw [hr2.cell]; exact u8s_get _ _ (by rw [filled_length _ _ (by rw [Hd.out]; omega), Hd.out]; exact hlt)
      have f1 := hr2.frozen i
      generalize bs s (2 * i) = B1 at *
      generalize bs s (2 * i + 1) = B2 at *
      generalize digV B1 = h at *
      generalize digV B2 = lo at *
      have Hset := Lib.hid hset
      have Hbad1 := Lib.hid hbad1
      have Hbad2 := Lib.hid hbad2
      have Hgood := Lib.hid hgood
      have hb1 := b1.1
      have hb2 := b1.2
      have hb3 := b2.1
      have hb4 := b2.2
      have i1 : (i : Int) < 32 := by omega
      have i0 : (0 : Int) ≤ i := by omega
      clear hr hr2 hbel hset hbad1 hbad2 hgood b1 b2 e1 e2
      go_wp2_with fail
      refine (X1.out wr).mono ?_
      rintro e w' ⟨rfl, rfl⟩
      go_wp2_with fail
      refine (X2.out wr).mono ?_
      rintro e w' ⟨rfl, rfl⟩
      clear hi1 hi2 X1 X2
      by_cases hbad : h < 0 ∨ lo < 0
      · have hno : ¬ okTo s 64 := by
          rcases hbad with hb | hb
          · exact Hbad1.out hb
          · exact Hbad2.out hb
        have Hno := Lib.hid hno
        clear hno Hbad1 Hbad2 Hgood hok
        have fin : ∀ W, W = wr.setRow w.heap.size (u8s noDigest) → (∃ R' E', R' = R ∧ E' = E ∧ R' = noDigest ∧ E' = 2) ∧ Below w.heap.size w W := fun W hW => by
          subst hW
          refine ⟨⟨R, E, rfl, rfl, ?_, ?_⟩, Hbel.out.grown (grown_setRow _ _ _) Hbel.out.size (by intro q hq; injection hq with hq; omega)⟩
          · rcases HR.out with h | h
            · exact absurd h.1 Hno.out
            · exact h.2.1
          · rcases HR.out with h | h
            · exact absurd h.1 Hno.out
            · exact h.2.2
        have Fin := Lib.hid fin
        clear fin
        by_cases h1 : h < 0
        · have d1 : decide (h < 0) = true := by simp; omega
          go_wp2_with (rw [← zerosN]; refine wp_store_blk rfl 23 (.tmp 2) (.tmp 32) rfl w.heap.size rfl (u8s noDigest) rfl Hr.out (by rw [info32, Hz32.out]) rfl (u8s_one _) ?_)
          refine bodyPost_ret (results_row_tmp rfl _ _ w.heap.size (u8s noDigest) rfl (run_loadVar_row _ w.heap.size 23 23 (u8s noDigest) (0, 0) _ (heap_setRow_same Hr.out _) Tryd.underlying23 rfl (by rw [info32, Hz32.out]))) rfl ?_
          obtain ⟨⟨R', E', e1, e2, e3, e4⟩, hB⟩ := Fin.out _ rfl
          exact ⟨by rw [← e1, ← e2, e3, e4]; rfl, hB⟩
        · have d1 : decide (h < 0) = false := by simp; omega
          have d2 : decide (lo < 0) = true := by simp; omega
          go_wp2_with (rw [← zerosN]; refine wp_store_blk rfl 23 (.tmp 2) (.tmp 32) rfl w.heap.size rfl (u8s noDigest) rfl Hr.out (by rw [info32, Hz32.out]) rfl (u8s_one _) ?_)
          refine bodyPost_ret (results_row_tmp rfl _ _ w.heap.size (u8s noDigest) rfl (run_loadVar_row _ w.heap.size 23 23 (u8s noDigest) (0, 0) _ (heap_setRow_same Hr.out _) Tryd.underlying23 rfl (by rw [info32, Hz32.out]))) rfl ?_
          obtain ⟨⟨R', E', e1, e2, e3, e4⟩, hB⟩ := Fin.out _ rfl
          exact ⟨by rw [← e1, ← e2, e3, e4]; rfl, hB⟩
      · obtain ⟨hn, rfl⟩ : ∃ hn : Nat, h = (hn : Int) := ⟨h.toNat, by omega⟩
        obtain ⟨ln, rfl⟩ : ∃ ln : Nat, lo = (ln : Int) := ⟨lo.toNat, by omega⟩
        have hor := or_hex hn ln (by omega) (by omega)
        have hset := Hset.out
        simp only [Int.toNat_natCast] at hset
        have hgo := Lib.hid (Hgood.out (by omega) (by omega))
        have hx256 : hn * 16 + ln < 256 := by omega
        generalize hn * 16 + ln = x at *
        have Hset2 := Lib.hid hset
        have m8 : (x : Int) % 256 = (x : Int) := by omega
        have d1 : decide ((hn : Int) < 0) = false := by simp
        have d2 : decide ((ln : Int) < 0) = false := by simp
        clear hset Hset Hgood Hbad1 Hbad2 hbad hok
        go_wp2
        go_roundw
        case rel =>
          have hs := Hr2.out.set i (.int .u8 (x : Int))
          rw [u8s_set, Hset2.out] at hs
          exact ⟨i + 1, by go_num, by omega, Hr.out.grown (row := some (w.heap.size + 1)) (grown_set wr _ _ _) (by simp), hs, Hbel.out.grown (grown_set wr _ _ _) Hbel.out.size (by intro q hq; injection hq with hq; omega), hgo⟩
        case measure => simp [intOf]; omega
    · obtain rfl : i = 32 := by omega
      have hend : filled d 32 = d := by
        have := filled_end d
        rwa [Hd.out] at this
      rw [hend] at Hr2
      have hs1 : (u8s d).size = 32 := by rw [u8s_size, Hd.out]
      have Hs1 := Lib.hid hs1
      have hRd : R = d ∧ E = 0 := by
        rcases HR.out with h | h
        · exact ⟨h.2.1.trans HD.out, h.2.2⟩
        · exact absurd hok.out h.1
      have HRd := Lib.hid hRd
      clear hr hr2 hbel hend hs1 hRd hok
      go_wp2_with (first
        | (refine wpList_load_row rfl 23 (.tmp 4) rfl (w.heap.size + 1) rfl 23 (u8s d) (0, 0) _ Hr2.out Tryd.underlying23 rfl (by rw [info32, Hs1.out]) ?_)
        | (refine wp_store_blk rfl 23 (.tmp 2) (.tmp 41) rfl w.heap.size rfl (u8s d) rfl Hr.out (by rw [info32, Hs1.out]) (by rw [Hz32.out, Hs1.out]) (u8s_one _) ?_))
      refine bodyPost_ret (results_row_tmp rfl _ _ w.heap.size (u8s d) rfl (run_loadVar_row _ w.heap.size 23 23 (u8s d) (0, 0) _ (heap_setRow_same Hr.out _) Tryd.underlying23 rfl (by rw [info32, Hs1.out]))) rfl ?_
      exact ⟨by rw [HRd.out.1, HRd.out.2]; rfl, Hbel.out.grown (grown_setRow _ _ _) Hbel.out.size (by intro q hq; injection hq with hq; omega)⟩
end Go.Proofs.YtpgjnmakpghamaaDoor

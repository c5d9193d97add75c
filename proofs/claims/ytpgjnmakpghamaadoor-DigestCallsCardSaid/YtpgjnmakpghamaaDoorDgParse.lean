/- Parse of a digest's text. -/
import Derived.Test.YtpgjnmakpghamaaDoorDgHsum
namespace Go.Proofs.YtpgjnmakpghamaaDoor
open Go.RowKit
set_option linter.unusedVariables false

theorem textU_length : ∀ d : List Nat, (textU d).length = 2 * d.length
  | [] => rfl
  | c :: r => by
    have := textU_length r
    unfold textU at this ⊢
    rw [List.flatMap_cons, List.length_append, this]
    simp
    omega
theorem textU_even : ∀ (d : List Nat) (i : Nat), i < d.length → (textU d)[2 * i]? = some (UInt8.ofNat (hexN (d.getD i 0 / 16))) ∧ (textU d)[2 * i + 1]? = some (UInt8.ofNat (hexN (d.getD i 0 % 16)))
  | [], i, h => by simp at h
  | c :: r, 0, _ => by
    unfold textU
    rw [List.flatMap_cons]
    exact ⟨rfl, rfl⟩
  | c :: r, i + 1, h => by
    have ih := textU_even r i (by simpa using h)
    have e : textU (c :: r) = [UInt8.ofNat (hexN (c / 16)), UInt8.ofNat (hexN (c % 16))] ++ textU r := by unfold textU; rw [List.flatMap_cons]
    rw [e, List.getElem?_append_right (by simp; omega), List.getElem?_append_right (by simp; omega)]
    have e1 : 2 * (i + 1) - [UInt8.ofNat (hexN (c / 16)), UInt8.ofNat (hexN (c % 16))].length = 2 * i := by simp; omega
    have e2 : 2 * (i + 1) + 1 - [UInt8.ofNat (hexN (c / 16)), UInt8.ofNat (hexN (c % 16))].length = 2 * i + 1 := by simp; omega
    rw [e1, e2]
    simpa using ih
theorem run_index_str (w : World) (l : List UInt8) (j x : Nat) (b : UInt8) (hb : l[j]? = some b) (hx : b.toNat = x) : (Instr.index 9 (.string ⟨l.toArray⟩) (.int .i64 (j : Int))).run Tryd.prog w = .ok (.int .u8 (x : Int)) w := by
  have hj : j < l.length := (List.getElem?_eq_some_iff.1 hb).1
  have hg : (⟨l.toArray⟩ : ByteArray)[j]? = some b := by
    have h2 : j < (⟨l.toArray⟩ : ByteArray).size := hj
    rw [ByteArray.getElem?_lt' _ _ h2]
    have := (List.getElem?_eq_some_iff.1 hb).2
    exact congrArg some this
  have h0 : (0 : Int) ≤ (j : Int) := by omega
  simp [Instr.index, asIntOf, Sem.run_bind, run_underlying Tryd.underlying9 w, h0, hg, hx]
theorem hexN_toNat (x : Nat) (h : x < 16) : (UInt8.ofNat (hexN x)).toNat = hexN x := by
  have := hexN_lt x h
  rw [UInt8.toNat_ofNat']
  omega
theorem or_hex (h l : Nat) (hh : h < 16) (hl : l < 16) : bits .or .i64 ((h : Int) * 16) (l : Int) = ((h * 16 + l : Nat) : Int) := by
  have : ∀ a b : Fin 16, bits .or .i64 ((a.val : Int) * 16) (b.val : Int) = ((a.val * 16 + b.val : Nat) : Int) := by decide +kernel
  exact this ⟨h, hh⟩ ⟨l, hl⟩

theorem run_index_byte (w : World) (x : Nat) (hx : x < 16) : (callFunc 54 #[.string ⟨#[48, 49, 50, 51, 52, 53, 54, 55, 56, 57, 97, 98, 99, 100, 101, 102]⟩, .int .u8 (hexN x : Nat)]).run Tryd.prog w = .ok (.value (.int .i64 (x : Int))) w := by
  have h : x = 0 ∨ x = 1 ∨ x = 2 ∨ x = 3 ∨ x = 4 ∨ x = 5 ∨ x = 6 ∨ x = 7 ∨ x = 8 ∨ x = 9 ∨ x = 10 ∨ x = 11 ∨ x = 12 ∨ x = 13 ∨ x = 14 ∨ x = 15 := by omega
  rcases h with rfl | rfl | rfl | rfl | rfl | rfl | rfl | rfl | rfl | rfl | rfl | rfl | rfl | rfl | rfl | rfl <;> rfl
theorem index_byte1 (w : World) (x : Nat) (hx : x < 16) : Calls Tryd.prog 45 #[.string ⟨#[48, 49, 50, 51, 52, 53, 54, 55, 56, 57, 97, 98, 99, 100, 101, 102]⟩, .int .u8 (hexN x : Nat)] w fun e w' => e = .returned (.int .i64 (x : Int)) ∧ w = w' := by
  have hr := fun W => run_index_byte W x hx
  go_enter Tryd.func45, Tryd.ntmps45
  go_wp2
  go_ret
  exact ⟨rfl, rfl⟩
theorem index_byte (w : World) (x : Nat) (hx : x < 16) : Calls Tryd.prog 29 #[.string ⟨#[48, 49, 50, 51, 52, 53, 54, 55, 56, 57, 97, 98, 99, 100, 101, 102]⟩, .int .u8 (hexN x : Nat)] w fun e w' => e = .returned (.int .i64 (x : Int)) ∧ w = w' := by
  have H := Lib.hid (index_byte1 w x hx)
  go_enter Tryd.func29, Tryd.ntmps29
  go_wp2_with fail
  refine H.out.mono ?_
  rintro e w' ⟨rfl, rfl⟩
  go_wp2
  go_ret
  exact ⟨rfl, rfl⟩

set_option maxRecDepth 100000 in
set_option maxHeartbeats 1000000 in
theorem parse_text (w : World) (d : List Nat) (hd : d.length = 32) (hb : Bytes d) :
    Calls Tryd.prog 8 #[.string ⟨(textU d).toArray⟩] w fun e w' => e = .returned (.tuple #[.agg (u8s d), .int .i64 0]) ∧ Below w.heap.size w w' := by
  have hsz : (⟨(textU d).toArray⟩ : ByteArray).size = 64 := by show (textU d).toArray.size = 64; rw [List.size_toArray, textU_length, hd]
  have Hev := Lib.hid (textU_even d)
  have Hd := Lib.hid hd
  have Hb := Lib.hid hb
  have hf0 : noDigest = filled d 0 := by rw [filled_zero, hd]; rfl
  have hal : Below w.heap.size w ((w.alloc (.cells (u8s noDigest) 23)).alloc (.cells (u8s noDigest) 23)) := ((Below.refl _ _).alloc (Nat.le_refl _) _).alloc (by simp) _
  have hr := (BlkIs.new w 23 (u8s noDigest)).here ((Below.refl _ _).alloc (Nat.le_refl _) (.cells (u8s noDigest) 23))
  have hr2 : BlkIs ((w.alloc (.cells (u8s noDigest) 23)).alloc (.cells (u8s noDigest) 23)) (w.heap.size + 1) 23 (u8s (filled d 0)) := by rw [← hf0]; simpa using BlkIs.new (w.alloc (.cells (u8s noDigest) 23)) 23 (u8s noDigest)
  have Hal := Lib.hid hal
  have Hr := Lib.hid hr
  have Hr2 := Lib.hid hr2
  have hz32 : (u8s noDigest).size = 32 := by rw [u8s_size, noDigest_length]
  have Hz32 := Lib.hid hz32
  obtain ⟨s, hs⟩ : ∃ s : ByteArray, ⟨(textU d).toArray⟩ = s := ⟨_, rfl⟩
  rw [hs] at hsz ⊢
  have eb : (((s.size : Nat) : Int) != 64) = false := by simp; omega
  have Hs := Lib.hid hs
  clear hal hr hr2 hz32 hf0 hd hb hs hsz
  go_enter Tryd.func8, Tryd.ntmps8
  go_wp2
  rw [← zerosN]
  generalize (w.alloc (.cells (u8s noDigest) 23)).alloc (.cells (u8s noDigest) 23) = W0 at *
  go_loopw [12] (fun x wr => ∃ i : Nat, x = .int .i64 i ∧ i ≤ 32 ∧ BlkIs wr w.heap.size 23 (u8s noDigest) ∧ BlkIs wr (w.heap.size + 1) 23 (u8s (filled d i)) ∧ Below w.heap.size w wr) (fun x _ => 32 - (intOf x).toNat)
  case atStart => exact ⟨0, rfl, by omega, Hr.out, Hr2.out, Hal.out⟩
  case round =>
    obtain ⟨i, rfl, hi, hr, hr2, hbel⟩ := hrel
    clear Hr Hr2 Hal
    have Hr := Lib.hid hr
    have Hr2 := Lib.hid hr2
    have Hbel := Lib.hid hbel
    by_cases hlt : i < 32
    · obtain ⟨t1, t2⟩ := Hev.out i (by rw [Hd.out]; exact hlt)
      have hx256 := Hb.out i
      have c1 : wr.cell? ⟨w.heap.size + 1, i, none⟩ = some (.int .u8 ((filled d i).getD i 0 : Nat)) := by rw [hr2.cell]; exact u8s_get _ _ (by rw [filled_length _ _ (by rw [Hd.out]; omega), Hd.out]; exact hlt)
      have f1 := hr2.frozen i
      have hset := filled_set d i (by rw [Hd.out]; exact hlt)
      generalize d.getD i 0 = x at *
      have hi1 : ∀ W : World, (Instr.index 9 (.string s) (.int .i64 (2 * (i : Int)))).run Tryd.prog W = .ok (.int .u8 ((hexN (x / 16) : Nat) : Int)) W := fun W => by
        have := run_index_str W (textU d) (2 * i) (hexN (x / 16)) _ t1 (hexN_toNat _ (by omega))
        rw [Hs.out, show ((2 * i : Nat) : Int) = 2 * (i : Int) by omega] at this
        exact this
      have hi2 : ∀ W : World, (Instr.index 9 (.string s) (.int .i64 (2 * (i : Int) + 1))).run Tryd.prog W = .ok (.int .u8 ((hexN (x % 16) : Nat) : Int)) W := fun W => by
        have := run_index_str W (textU d) (2 * i + 1) (hexN (x % 16)) _ t2 (hexN_toNat _ (by omega))
        rw [Hs.out, show ((2 * i + 1 : Nat) : Int) = 2 * (i : Int) + 1 by omega] at this
        exact this
      have hor := or_hex (x / 16) (x % 16) (by omega) (by omega)
      have hxx : x / 16 * 16 + x % 16 = x := by omega
      rw [hxx] at hor
      obtain ⟨h, hh⟩ : ∃ h, x / 16 = h := ⟨_, rfl⟩
      obtain ⟨lo, hlo⟩ : ∃ lo, x % 16 = lo := ⟨_, rfl⟩
      have hh16 : h < 16 := by omega
      have hl16 : lo < 16 := by omega
      rw [hh] at hi1
      rw [hlo] at hi2
      rw [hh, hlo] at hor
      have X1 := Lib.hid (fun W => index_byte W h hh16)
      have X2 := Lib.hid (fun W => index_byte W lo hl16)
      have Hset := Lib.hid hset
      have m8 : (x : Int) % 256 = (x : Int) := by omega
      have i1 : (i : Int) < 32 := by omega
      have i0 : (0 : Int) ≤ i := by omega
      clear hr hr2 hbel t1 t2 hset hxx hh hlo
      go_wp2_with fail
      refine (X1.out wr).mono ?_
      rintro e w' ⟨rfl, rfl⟩
      go_wp2_with fail
      refine (X2.out wr).mono ?_
      rintro e w' ⟨rfl, rfl⟩
      have dh : decide ((h : Int) < 0) = false := by simp
      have dl : decide ((lo : Int) < 0) = false := by simp
      go_wp2
      go_roundw
      case rel =>
        have hs := Hr2.out.set i (.int .u8 (x : Int))
        rw [u8s_set, Hset.out] at hs
        exact ⟨i + 1, by go_num, by omega, Hr.out.grown (row := some (w.heap.size + 1)) (grown_set wr _ _ _) (by simp), hs, Hbel.out.grown (grown_set wr _ _ _) Hbel.out.size (by intro q hq; injection hq with hq; omega)⟩
      case measure => simp [intOf]; omega
    · obtain rfl : i = 32 := by omega
      have hend : filled d 32 = d := by
        have := filled_end d
        rwa [Hd.out] at this
      rw [hend] at Hr2
      have hs1 : (u8s d).size = 32 := by rw [u8s_size, Hd.out]
      have Hs1 := Lib.hid hs1
      clear hr hr2 hbel hend hs1
      go_wp2_with (first
        | (refine wpList_load_row rfl 23 (.tmp 4) rfl (w.heap.size + 1) rfl 23 (u8s d) (0, 0) _ Hr2.out Tryd.underlying23 rfl (by rw [info32, Hs1.out]) ?_)
        | (refine wp_store_blk rfl 23 (.tmp 2) (.tmp 41) rfl w.heap.size rfl (u8s d) rfl Hr.out (by rw [info32, Hs1.out]) (by rw [Hz32.out, Hs1.out]) (u8s_one _) ?_))
      refine bodyPost_ret (results_row_tmp rfl _ _ w.heap.size (u8s d) rfl (run_loadVar_row _ w.heap.size 23 23 (u8s d) (0, 0) _ (heap_setRow_same Hr.out _) Tryd.underlying23 rfl (by rw [info32, Hs1.out]))) rfl ?_
      exact ⟨rfl, Hbel.out.grown (grown_setRow _ _ _) Hbel.out.size (by intro q hq; injection hq with hq; omega)⟩
end Go.Proofs.YtpgjnmakpghamaaDoor

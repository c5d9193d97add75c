/- What follows a message's bytes. -/
import Derived.Test.YtpgjnmakpghamaaDoorDgText
namespace Go.Proofs.YtpgjnmakpghamaaDoor
open Go.RowKit
set_option linter.unusedVariables false

def zerosOf (n : Nat) : Nat := (119 - n % 64) % 64
/-- What follows n bytes, k bytes of the length told. -/
def padGo (n : Nat) : Nat → List UInt8
  | 0 => 128 :: List.replicate (zerosOf n) 0
  | k + 1 => padGo n k ++ [UInt8.ofNat (8 * n / 2 ^ (56 - 8 * k) % 256)]
def padU (n : Nat) : List UInt8 := padGo n 8
theorem padGo_length (n : Nat) : ∀ k, (padGo n k).length = 1 + zerosOf n + k
  | 0 => by simp [padGo]; omega
  | k + 1 => by rw [padGo, List.length_append, padGo_length n k]; simp; omega

set_option maxRecDepth 100000 in
theorem pad_any (w : World) (n : Nat) (hn : n ≤ 1152921504606846976) :
    Calls Tryd.prog 12 #[.int .i64 n] w fun e w' => ∃ A c, e = .returned (.slice A (1 + zerosOf n + 8) c) ∧ Own w' w.heap.size A (1 + zerosOf n + 8) c (padU n) ∧ Below w.heap.size w w' := by
  obtain ⟨Z, hZ⟩ : ∃ Z, zerosOf n = Z := ⟨_, rfl⟩
  have hz64 : Z < 64 := by rw [← hZ]; exact Nat.mod_lt _ (by omega)
  have ez : (128 - (n : Int) % 64 - 1 - 8) % 64 = (Z : Int) := by
    rw [← hZ]
    unfold zerosOf
    omega
  have hmk := run_make_bytes w (1 + Z) (1 + Z + 8) (by omega) (by omega)
  have hmk1 : (Instr.makeSlice 33 (.int .i64 (1 + (Z : Int))) (.int .i64 (1 + (Z : Int) + 8))).run Tryd.prog w = .ok (.slice (some ⟨w.heap.size, 0, none⟩) (1 + Z) (1 + Z + 8)) (w.alloc (.cells (madeCells #[.int .u8 0] (1 + Z + 8)) 5)) := by
    have := hmk.1
    rw [show ((1 + Z : Nat) : Int) = 1 + (Z : Int) by omega, show ((1 + Z + 8 : Nat) : Int) = 1 + (Z : Int) + 8 by omega] at this
    exact this
  have Ho := Lib.hid hmk.2
  have Hal : Hid (Below w.heap.size w (w.alloc (.cells (madeCells #[.int .u8 0] (1 + Z + 8)) 5))) := (Below.refl _ _).alloc (Nat.le_refl _) _
  have HZ := Lib.hid hZ
  have em : max (n : Int) 0 = n := by omega
  have em2 : max 0 (n : Int) = n := by omega
  rw [hZ]
  clear hmk hZ
  go_enter Tryd.func12, Tryd.ntmps12
  go_upto_region 4 with fail
  rw [ez]
  clear ez
  generalize w.alloc (.cells (madeCells #[.int .u8 0] (1 + Z + 8)) 5) = W1 at *
  have ho : W1.ownsRow w.heap.size 5 1 (.slice (some ⟨w.heap.size, 0, none⟩) (1 + Z) (1 + Z + 8)) (1 + Z) (bvs (List.replicate (1 + Z) 0)) := Ho.out
  have c1 := ho.cellAt 0 (by omega)
  have f1 := ho.frozenAt 0
  have hst := ho.stored 0 (.int .u8 128)
  have hs2 : (bvs (List.replicate (1 + Z) 0)).set 0 (.int .u8 128) = bvs (128 :: List.replicate Z 0) := by
    rw [Nat.add_comm, List.replicate_succ]
    rfl
  have c0 : W1.cell? ⟨w.heap.size, 0, none⟩ = some (.int .u8 0) := by
    rw [c1, Nat.add_comm, List.replicate_succ]
    rfl
  rw [hs2] at hst
  have hst2 : Own (W1.setCell ⟨w.heap.size, 0, none⟩ (.int .u8 128)) w.heap.size (some ⟨w.heap.size, 0, none⟩) (1 + Z + 0) (1 + Z + 8) (padGo n 0) := by
    unfold padGo
    rw [HZ.out]
    exact hst.1
  have Hst := Lib.hid hst2
  have Hal1 : Hid (Below w.heap.size w (W1.setCell ⟨w.heap.size, 0, none⟩ (.int .u8 128))) := Hal.out.setCell (p := ⟨w.heap.size, 0, none⟩) (Nat.le_refl _) _
  have k1 : (0 : Int) < 1 + (Z : Int) := by omega
  have m1 : IntKind.u64.wrap (8 * (n : Int)) = 8 * (n : Int) := IntWalk.u64_in _ (by omega)
  clear ho c1 hst hs2 hst2 Ho Hal hmk1
  go_wp2
  go_loopw [4, 6] (fun y x wr => ∃ (A : Option Addr) (n' c k : Nat), y = .slice A n' c ∧ x = .int .i64 (56 - 8 * (k : Int)) ∧ k ≤ 8 ∧ n' = 1 + Z + k ∧ Own wr w.heap.size A n' c (padGo n k) ∧ Below w.heap.size w wr) (fun _ x _ => (intOf x + 8).toNat)
  case atStart => exact ⟨_, 1 + Z, 1 + Z + 8, 0, rfl, rfl, by omega, rfl, Hst.out, Hal1.out⟩
  case round =>
    obtain ⟨A, n', c, k, rfl, rfl, hk, rfl, ho, hbel⟩ := hrel
    have Ho := Lib.hid ho
    have Hbel := Lib.hid hbel
    clear ho hbel Hst Hal1
    by_cases hlt : k < 8
    · obtain ⟨sh, hsh⟩ : ∃ sh : Nat, 56 - 8 * k = sh := ⟨_, rfl⟩
      have es : 56 - 8 * (k : Int) = (sh : Int) := by omega
      have hstep : padGo n (k + 1) = padGo n k ++ [UInt8.ofNat (8 * n / 2 ^ sh % 256)] := by rw [padGo, hsh]
      have hsh2 : sh ≤ 56 := by omega
      have b0 : decide ((0 : Int) ≤ 56 - 8 * (k : Int)) = true := by simp; omega
      have Hstep := Lib.hid hstep
      have Hsh := Lib.hid hsh
      clear hstep hsh
      have hv : 8 * (n : Int) / 2 ^ sh % 256 = ((8 * n / 2 ^ sh % 256 : Nat) : Int) := by
        have ep : ((2 ^ sh : Nat) : Int) = (2 : Int) ^ sh := by simp
        rw [← ep, show 8 * (n : Int) = ((8 * n : Nat) : Int) by omega, ← Int.natCast_ediv]
        generalize 8 * n / 2 ^ sh = q
        omega
      have hby := Byt.lit wr #[.int .u8 (8 * (n : Int) / 2 ^ sh % 256)] [UInt8.ofNat (8 * n / 2 ^ sh % 256)] (by
        rw [hv]
        simp only [bvs, List.map_cons, List.map_nil, UInt8.toNat_ofNat']
        rw [show 8 * n / 2 ^ sh % 256 % 2 ^ 8 = 8 * n / 2 ^ sh % 256 from Nat.mod_eq_of_lt (Nat.mod_lt _ (by omega))]) (by simp [maxLen])
      have hoa : Own (wr.alloc (.cells #[.int .u8 (8 * (n : Int) / 2 ^ sh % 256)] 5)) w.heap.size A (1 + Z + k) c (padGo n k) := Own.alloc Ho.out _
      have hba : Below w.heap.size w (wr.alloc (.cells #[.int .u8 (8 * (n : Int) / 2 ^ sh % 256)] 5)) := Hbel.out.alloc Hbel.out.size _
      have Hby := Lib.hid hby
      have Hoa := Lib.hid hoa
      have Hba := Lib.hid hba
      have hle : 1 + Z + k ≤ 100 := by omega
      have hsz := Hbel.out.size
      clear hv hby hoa hba
      rw [es]
      go_wp2_with (at_builtin; refine wpList_byte_append rfl (.tmp 30) (.tmp 35) rfl w.heap.size A (1 + Z + k) c (padGo n k) rfl Hoa.out _ _ 1 1 _ rfl Hby.out (by omega) Hba.out.size ?_
                   intro A2 c2 w2 ho2 hg2 ha2
                   rw [← Hstep.out] at ho2
                   have Ho2 := Lib.hid ho2
                   have Hb2 := Lib.hid (Hba.out.grown hg2 Hba.out.size fun q hq => (World.ownsRow.lt Hoa.out q hq).1)
                   clear ho2 hg2 ha2)
      go_roundw
      case rel => exact ⟨A2, 1 + Z + k + 1, c2, k + 1, rfl, by congr 1; omega, by omega, rfl, Ho2.out, Hb2.out⟩
      case measure => simp [intOf]; omega
    · obtain rfl : k = 8 := by omega
      have b0 : decide ((0 : Int) ≤ 56 - 8 * ((8 : Nat) : Int)) = false := by decide
      go_wp2
      go_ret
      exact ⟨A, c, rfl, Ho.out, Hbel.out⟩
end Go.Proofs.YtpgjnmakpghamaaDoor

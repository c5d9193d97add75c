/- Package vector: strconv.FormatUint, words of Text. -/
import Derived.Test.YtlmfjalkgapcgaaDoorVcKit
import Derived.Test.YtlmfjalkgapcgaaDoorGnFlow
import Derived.Test.YtlmfjalkgapcgaaDoorPtShelf
import Derived.Lib.LaidTab
import Derived.Lib.AppendIntMem
import Derived.Lib.ItoaNum
import Derived.Deep.RegionHeld3
namespace Go.Proofs.YtlmfjalkgapcgaaDoor
open Go.RowKit Go.Sort
set_option linter.unusedVariables false

attribute [local go_sem] Oper.semAt_some

/-- The table of powers of ten lies as the program's text lays it. -/
def Tab (w : World) : Prop := Lib.TabIs Tryd.prog w "internal/strconv.uint64pow10" .u64 Lib.pow10Tab
theorem Tab.next {w w' : World} (h : Tab w) (k : Nx w w') : Tab w' := by
  unfold Tab Lib.TabIs World.var? at h ⊢
  cases e : Tryd.prog.globalNamed "internal/strconv.uint64pow10" with
  | none => rw [e] at h; exact absurd h (by simp)
  | some g =>
    rw [e] at h
    simp only [Option.bind_some] at h ⊢
    have hlt : g < w.heap.size := by
      cases e2 : w.heap[g]? with
      | none => rw [e2] at h; exact absurd h (by simp)
      | some o => exact (Array.getElem?_eq_some_iff.1 e2).1
    rw [k.block g hlt]
    exact h

set_option maxRecDepth 100000 in
set_option maxHeartbeats 2000000 in
theorem fmtU_any (w : World) (u : Nat) (hu : u < 18446744073709551616) (T : Tab w) :
    Calls Tryd.prog 55 #[.int .u64 u, .int .i64 10] w fun e w' => e = .returned (.string (S (Lib.decDigits u))) ∧ Nx w w' := by
  by_cases hs : u < 100
  · have d1 : decide ((u : Int) < 100) = true := by simp; omega
    have d2 : decide (u < 100) = true := by simp; omega
    have hcv : IntKind.i64.wrap (u : Int) = (u : Int) := IntWalk.i64_in _ (by omega)
    have CL := Lib.hid (Tryd.internal_strconv_small u hs w)
    go_enter Tryd.func55, Tryd.ntmps55
    go_wp2_with fail
    refine CL.out.mono ?_
    rintro e w' ⟨rfl, rfl⟩
    go_wp2
    go_ret
    exact ⟨rfl, Nx.refl _⟩
  · have d1 : decide ((u : Int) < 100) = false := by simp; omega
    have d2 : decide (u < 100) = false := by simp; omega
    have hd := Lib.numDigits_eq u (by omega) hu
    have hd20 : Lib.nDigits u ≤ 20 := by split at hd <;> omega
    have hal : Tryd.prog.arrayLen 104 = 24 := by kernel_rfl
    have hz := Lib.holds_zero0 w 104 (Lib.nDigits u) (by omega)
    have hf := Tryd.internal_strconv_formatBase10 w.heap.size 0 24 u (Array.replicate (Lib.nDigits u) 0) (w.alloc (.cells Lib.zeros24 104)) hz (by rw [Array.size_replicate]; exact Lib.lt_pow_nDigits u) hu (by rw [Array.size_replicate]; omega)
    rw [Array.size_replicate] at hf
    have hnd := Tryd.internal_strconv_numDigits u (by omega) hu (w.alloc (.cells Lib.zeros24 104)) (Lib.tabIs_alloc T _)
    have hsl : ∀ W, (Instr.sliceAt 104 (.pointer (some ⟨w.heap.size, 0, none⟩)) none (some (.int .i64 (Lib.nDigits u : Int))) none).run Tryd.prog W = .ok (.slice (some ⟨w.heap.size, 0, none⟩) (Lib.nDigits u) 24) W := fun W => by
      rw [run_sliceAt_array_h W 104 ⟨w.heap.size, 0, none⟩ (by simp [Program.arrayLen, Program.elem, Tryd.underlying104]) .i64 (Lib.nDigits u : Int) (by omega) (by rw [hal]; omega)]
      go_simp
    have HZ := Lib.hid hz
    have HF := Lib.hid hf
    have HD := Lib.hid hnd
    have HQ := Lib.hid hd20
    clear hz hf hnd hd hd20 hal T
    go_enter Tryd.func55, Tryd.ntmps55
    go_wp2_with fail
    refine HD.out.mono ?_
    rintro e w' ⟨rfl, rfl⟩
    clear HD
    go_wp2_with fail
    refine HF.out.mono ?_
    rintro e w' ⟨rfl, k, v', dk, rfl, hI⟩
    have hcv : (convert 34 9 (.slice (some ⟨w.heap.size, 0, none⟩) (Lib.nDigits u) 24)).run Tryd.prog ((putRow (fun (b : UInt8) => Value.int .u8 (b.toNat : Int)) (w.alloc (.cells Lib.zeros24 104)) w.heap.size 0 dk).drewN k) =
        .ok (.string (S (Lib.decDigits u))) ((putRow (fun (b : UInt8) => Value.int .u8 (b.toNat : Int)) (w.alloc (.cells Lib.zeros24 104)) w.heap.size 0 dk).drewN k) := by
      have h := run_convert_bytes_back (P := Tryd.prog) ((putRow (fun (b : UInt8) => Value.int .u8 (b.toNat : Int)) (w.alloc (.cells Lib.zeros24 104)) w.heap.size 0 dk).drewN k) 34 9 5 ⟨w.heap.size, 0, none⟩ 24 (Lib.decDigits u) Tryd.underlying34 Tryd.underlying5 Tryd.underlying9 (fun j hj => by
        rw [Lib.row_is_numeral hI j hj, Lib.add_plain, World.cell?_drewN]
        exact cell?_putRow (fun (b : UInt8) => Value.int .u8 (b.toNat : Int)) _ w.heap.size 0 _ dk HZ.out (by rw [hI.size, Array.size_replicate]) j (by rw [hI.size]; rw [Lib.decDigits_length] at hj; exact hj))
      rw [Lib.decDigits_length] at h
      exact h
    have FIN : Hid (Nx w ((putRow (fun (b : UInt8) => Value.int .u8 (b.toNat : Int)) (w.alloc (.cells Lib.zeros24 104)) w.heap.size 0 dk).drewN k)) := by
      obtain ⟨os, e⟩ := Lib.fin_at w (.cells Lib.zeros24 104) dk k 0
      rw [e]
      exact Lib.below_grow _ _ (Nat.le_refl _) _ _
    clear HF HZ hI
    generalize (putRow (fun (b : UInt8) => Value.int .u8 (b.toNat : Int)) (w.alloc (.cells Lib.zeros24 104)) w.heap.size 0 dk).drewN k = V at *
    go_wp2
    go_ret
    exact ⟨rfl, FIN.out⟩
set_option maxRecDepth 100000 in
theorem formatUint_any (w : World) (u : Nat) (hu : u < 18446744073709551616) (T : Tab w) :
    Calls Tryd.prog 37 #[.int .u64 u, .int .i64 10] w fun e w' => e = .returned (.string (S (Lib.decDigits u))) ∧ Nx w w' := by
  have H := Lib.hid (fmtU_any w u hu T)
  clear T
  go_enter Tryd.func37, Tryd.ntmps37
  go_wp2_with fail
  refine H.out.mono ?_
  rintro e w' ⟨rfl, hn⟩
  have N := Lib.hid hn
  clear H hn
  go_wp2
  go_ret
  exact ⟨rfl, N.out⟩
theorem itoa_any (w : World) (n : Int) (h0 : -9223372036854775808 ≤ n) (h1 : n ≤ 9223372036854775807) (T : Tab w) :
    Calls Tryd.prog 36 #[.int .i64 n] w fun e w' => e = .returned (.string (S (Lib.itoa n))) ∧ Nx w w' :=
  (Tryd.strconv_Itoa n h0 h1 w T).mono fun e w' ⟨h1, k, os, h2⟩ => ⟨h1, by rw [h2]; exact Lib.below_grow _ _ (Nat.le_refl _) _ _⟩

/-! ### Text -/
def strE : En (List UInt8) := { t := 9, k := 1, sz := 16, z := .string ⟨#[]⟩, e := fun s => [.string (S s)], len := fun _ => rfl, one := fun a => one_of3 rfl one_nil, kpos := by decide, info := by kernel_rfl, zc := rfl, szb := by decide }
def wordOf (c : Ct) : List UInt8 := Lib.itoa c.d ++ [58] ++ Lib.decDigits c.n
def textV (l : List Ct) : List UInt8 := Lib.join (l.map wordOf) [32]
theorem nDigits_le (u : Nat) (h : u < 18446744073709551616) : Lib.nDigits u ≤ 20 := by
  by_cases h0 : u = 0
  · subst h0; simp [Lib.nDigits]
  · have := Lib.numDigits_eq u (by omega) h
    split at this <;> omega
end Go.Proofs.YtlmfjalkgapcgaaDoor

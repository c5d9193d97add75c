/- Memory that the digest's walks speak of: rows of words, the table of primes. -/
import Derived.Test.YtpgjnmakpghamaaDoorMem
import Derived.Test.YtpgjnmakpghamaaDoorDgRoot
import Derived.Deep.MidRow
import Derived.BigQuiet
import Derived.Shelf.RegionOpen
import Derived.Deep.RegionWith
import Derived.Deep.DeepCutAuto
namespace Go.Proofs.YtpgjnmakpghamaaDoor
open Go.RowKit
set_option linter.unusedVariables false

theorem Below.onR {w w1 w2 : World} (h : Below w.heap.size w w1) (h2 : Below w1.heap.size w1 w2) : Below w.heap.size w w2 := h.trans (h2.mono h.size)

/-- A block whose cells are these. -/
def BlkIs (w : World) (g : Nat) (t : TypeId) (cs : Array Value) : Prop := w.heap[g]? = some (.cells cs t (0, 0))
section
variable {w w' : World} {g : Nat} {t : TypeId} {cs : Array Value}
theorem BlkIs.lt (h : BlkIs w g t cs) : g < w.heap.size := (Array.getElem?_eq_some_iff.1 h).1
theorem BlkIs.cell (h : BlkIs w g t cs) (i : Nat) : w.cell? ⟨g, i, none⟩ = cs[i]? := cell_of_row w g i cs t (0, 0) h
theorem BlkIs.frozen (h : BlkIs w g t cs) (i : Nat) : w.frozen? ⟨g, i, none⟩ = false := frozen_of_row w g i cs t h
theorem BlkIs.new (w : World) (t : TypeId) (cs : Array Value) : BlkIs (w.alloc (.cells cs t)) w.heap.size t cs := heap_alloc_new w _
theorem BlkIs.set (h : BlkIs w g t cs) (i : Nat) (u : Value) : BlkIs (w.setCell ⟨g, i, none⟩ u) g t (cs.setIfInBounds i u) := heap_setCell_same w g i cs t u h
theorem BlkIs.grown (h : BlkIs w g t cs) {row : Option Nat} (hg : w.grownBy w' row) (hne : some g ≠ row) : BlkIs w' g t cs := (hg.block g h.lt hne).trans h
theorem BlkIs.below (h : BlkIs w g t cs) {B : Nat} (hb : Below B w w') (hlt : g < B) : BlkIs w' g t cs := (hb.block g hlt).trans h
theorem BlkIs.here (h : BlkIs w g t cs) (hb : Below w.heap.size w w') : BlkIs w' g t cs := h.below hb h.lt
theorem BlkIs.range (h : BlkIs w g t cs) : w.rangeAt g 0 cs.toList := fun j v hv => by rw [Nat.zero_add, h.cell j]; simpa using hv
theorem BlkIs.there (h : BlkIs w g t cs) : w.there g 0 cs.size := fun j hj => ⟨by rw [Nat.zero_add, h.cell j]; simp [hj], h.frozen _⟩
end

theorem heap_setRow_same {w : World} {g : Nat} {t : TypeId} {cs0 : Array Value} (h : BlkIs w g t cs0) (cs : Array Value) : BlkIs (w.setRow g cs) g t cs := by
  unfold BlkIs World.setRow at *
  simp only [Array.getElem?_modify, if_true, h, Option.map_some]
theorem heap_setRow_other (w : World) (g k : Nat) (cs : Array Value) (h : k ≠ g) : (w.setRow g cs).heap[k]? = w.heap[k]? := by
  unfold World.setRow
  simp only [Array.getElem?_modify, if_neg (Ne.symm h)]
theorem size_setRow (w : World) (g : Nat) (cs : Array Value) : (w.setRow g cs).heap.size = w.heap.size := by
  unfold World.setRow
  simp
theorem grown_setRow (w : World) (g : Nat) (cs : Array Value) : w.grownBy (w.setRow g cs) (some g) :=
  ⟨rfl, rfl, rfl, by rw [size_setRow]; exact Nat.le_refl _, fun k _ hk => heap_setRow_other w g k cs (fun e => hk (by simp [e]))⟩
theorem grown_set (w : World) (g i : Nat) (u : Value) : w.grownBy (w.setCell ⟨g, i, none⟩ u) (some g) :=
  ⟨rfl, rfl, rfl, by simp, fun k _ hk => heap_setCell_other w ⟨g, i, none⟩ k u (fun e => hk (by simp [e]))⟩

section
variable {ops : Array Oper} {rest : List Oper} {o : Oper} {a : Act} {w : World} {Q : Exit → Act → World → Prop}
/-- A whole row is stored. -/
theorem wp_store_blk (hgd : o.guard = none) (ty : TypeId) (x y : Operand) (ho : o.op = .store ty x y) (g : Nat) (hx : a.eval x = .pointer (some ⟨g, 0, none⟩)) (cs : Array Value) (hy : a.eval y = .agg cs) {t : TypeId} {cs0 : Array Value}
    (hb : BlkIs w g t cs0) (hi : (Tryd.prog.info? ty).map (·.size) = some cs.size) (hs : cs0.size = cs.size) (h1 : cs.all (·.oneCell') = true) (h : wpList Tryd.prog ops Q rest (a.put o.dst undef) (w.setRow g cs)) : wpList Tryd.prog ops Q (o :: rest) a w :=
  wpList_plain hgd fun _ hK => by
    unfold Oper.wp execOp
    simp only [ho, hx, hy, Instr.storeAt, Instr.sureAddr, Sem.run_bind, Sem.run_pure, Result.andThen_ok, run_storeVar_row w g t ty cs0 cs hb hi hs h1]
    exact hK _ _ h
end

/-- An element of an array of numbers. -/
theorem run_index_arr (w : World) (t e : TypeId) (n : Nat) (k : IntKind) (ht : Tryd.prog.underlying t = some (.array n e)) (he : Tryd.prog.underlying e = some (.int k)) (hs : (Tryd.prog.info? e).map (·.size) = some 1) (cs : Array Value) (i : Nat) (v : Value) (hi : i < n) (hv : cs[i]? = some v) :
    (Instr.index t (.agg cs) (.int .i64 (i : Int))).run Tryd.prog w = .ok v w := by
  cases hq : Tryd.prog.info? e with
  | none => simp [hq] at hs
  | some inf =>
    have hsz : inf.size = 1 := by simpa [hq] using hs
    have hagg : (isAgg e).run Tryd.prog w = .ok false w := by
      unfold isAgg
      rw [Sem.run_bind, run_underlying he w]
      rfl
    have h0 : (0 : Int) ≤ (i : Int) ∧ (i : Int) < (n : Int) := by omega
    simp [Instr.index, asIntOf, Sem.run_bind, run_underlying ht w, h0, sizeOf, typeInfo, hq, hsz, part, hagg, hv]
    intro h
    omega

/-- Words, as cells. -/
def u32s (l : List Nat) : Array Value := (l.map fun x : Nat => Value.int .u32 (x : Int)).toArray
theorem u32s_size (l : List Nat) : (u32s l).size = l.length := by simp [u32s]
theorem u32s_get (l : List Nat) (i : Nat) (h : i < l.length) : (u32s l)[i]? = some (.int .u32 (l.getD i 0 : Nat)) := by simp [u32s, List.getD, h]
theorem u32s_set (l : List Nat) (i x : Nat) : (u32s l).setIfInBounds i (.int .u32 (x : Int)) = u32s (l.set i x) := by simp [u32s, List.map_set]
theorem u32s_one (l : List Nat) : (u32s l).all (·.oneCell') = true := by
  refine Array.all_eq_true_iff_forall_mem.2 fun v hv => ?_
  simp only [u32s, List.mem_toArray, List.mem_map] at hv
  obtain ⟨x, _, rfl⟩ := hv
  rfl

/-- The first 64 primes, in their variable. -/
def primesL : List Nat := [2, 3, 5, 7, 11, 13, 17, 19, 23, 29, 31, 37, 41, 43, 47, 53, 59, 61, 67, 71, 73, 79, 83, 89, 97, 101, 103, 107, 109, 113, 127, 131, 137, 139, 149, 151, 157, 163, 167, 173, 179, 181, 191, 193, 197, 199, 211, 223, 227, 229, 233, 239, 241, 251, 257, 263, 269, 271, 277, 281, 283, 293, 307, 311]
def primesV : Array Value := (primesL.map fun x : Nat => Value.int .u64 (x : Int)).toArray
theorem primesV_size : primesV.size = 64 := rfl
theorem primesV_get (i : Nat) (h : i < 64) : primesV[i]? = some (.int .u64 (primesL.getD i 0 : Nat)) := by
  have h2 : i < primesL.length := h
  simp [primesV, List.getD, h2]
def Primes (w : World) : Prop := ∃ t fr, w.heap[0]? = some (.cells primesV t fr)
theorem Primes.pos {w : World} (h : Primes w) : 0 < w.heap.size := by
  obtain ⟨t, fr, h⟩ := h
  exact (Array.getElem?_eq_some_iff.1 h).1
theorem Primes.cell {w : World} (h : Primes w) (i : Nat) (hi : i < 64) : w.cell? ⟨0, i, none⟩ = some (.int .u64 (primesL.getD i 0 : Nat)) := by
  obtain ⟨t, fr, h⟩ := h
  rw [cell_of_row w 0 i _ t fr h, primesV_get i hi]
theorem Primes.low {w w' : World} {B : Nat} (h : Primes w) (hb : Below B w w') (hB : 0 < B) : Primes w' := by
  obtain ⟨t, fr, h⟩ := h
  exact ⟨t, fr, (hb.block 0 hB).trans h⟩
theorem Primes.here {w w' : World} (h : Primes w) (hb : Below w.heap.size w w') : Primes w' := h.low hb h.pos
theorem primes_le (i : Nat) : primesL.getD i 0 ≤ 311 := by
  by_cases h : i < 64
  · have : ∀ j : Fin 64, primesL.getD j 0 ≤ 311 := by decide +kernel
    exact this ⟨i, h⟩
  · rw [List.getD, List.getElem?_eq_none (by simp [primesL]; omega)]
    exact Nat.zero_le _

def rootS (p : Nat) : Nat := rootGo (sqB p) 35 0
def rootC (p : Nat) : Nat := rootGo (cuB p) 35 0
theorem root_sq (p : Nat) (hp : p ≤ 311) (w : World) :
    Calls Tryd.prog 31 #[.int .u64 p, .func (.func 32) #[] #[]] w fun e w' => e = .returned (.int .u64 (rootS p : Nat)) ∧ w = w' :=
  root_any 32 (sqB p) p w (enters_of Tryd.func32 (by kernel_rfl) rfl) fun r hr => square_any r p (by omega) (by omega) w
theorem root_cu (p : Nat) (hp : p ≤ 311) (w : World) :
    Calls Tryd.prog 31 #[.int .u64 p, .func (.func 33) #[] #[]] w fun e w' => e = .returned (.int .u64 (rootC p : Nat)) ∧ w = w' :=
  root_any 33 (cuB p) p w (enters_of Tryd.func33 (by kernel_rfl) rfl) fun r hr => cube_any r p hr (by omega) w

def H0 : List Nat := (primesL.take 8).map fun p => rootS p % 4294967296
def K0 : List Nat := primesL.map fun p => rootC p % 4294967296
theorem H0_eq : H0 = [0x6a09e667, 0xbb67ae85, 0x3c6ef372, 0xa54ff53a, 0x510e527f, 0x9b05688c, 0x1f83d9ab, 0x5be0cd19] := by decide +kernel
theorem K0_first : K0.getD 0 0 = 0x428a2f98 := by decide +kernel
theorem K0_last : K0.getD 63 0 = 0xc67178f2 := by decide +kernel
end Go.Proofs.YtpgjnmakpghamaaDoor

/- Strings, worlds and blocks. No function of the program is named here, and no walk. -/
import Derived.Test.YtlmfjalkgapcgaaDoorMem
import Derived.Lib.Strings
namespace Go.Proofs.YtlmfjalkgapcgaaDoor
open Go.RowKit
set_option linter.unusedVariables false

/-! ### Strings -/
/-- A string of those bytes. -/
def S (l : List UInt8) : ByteArray := ⟨l.toArray⟩
theorem S_of (s : ByteArray) : S s.data.toList = s := Lib.mk_data s
theorem S_list (l : List UInt8) : (S l).data.toList = l := rfl
theorem S_toList (l : List UInt8) : (S l).toList = l := by rw [Lib.toList_data]; rfl
theorem S_size (l : List UInt8) : (S l).size = l.length := by rw [Lib.size_eq]; rfl
theorem S_nil : S [] = ⟨#[]⟩ := rfl
theorem S_inj {a b : List UInt8} : S a = S b ↔ a = b := ⟨fun h => congrArg (fun s : ByteArray => s.data.toList) h, fun h => h ▸ rfl⟩
/-! ### Worlds -/
/-- What was there is as it was. -/
def Nx (w w' : World) : Prop := Below w.heap.size w w'
theorem Nx.refl (w : World) : Nx w w := Below.refl _ _
theorem Nx.trans {a b c : World} (h : Nx a b) (k : Nx b c) : Nx a c := Below.trans h (Below.mono k h.size)
theorem Nx.drew {a b : World} (h : Nx a b) : Nx a b.drew := Below.drew h
theorem Nx.drewN {a b : World} (h : Nx a b) (n : Nat) : Nx a (b.drewN n) := ⟨h.os, h.tape, h.output, h.size, h.block⟩
theorem Nx.alloc {a b : World} (h : Nx a b) (o : Obj) : Nx a (b.alloc o) := Below.alloc h h.size o
theorem Nx.below {a b c : World} {B : Nat} (h : Below B a b) (k : Nx b c) (hB : B ≤ a.heap.size) : Below B a c := Below.trans h (Below.mono k (by have := h.size; omega))
/-- A store into a block that is new. -/
theorem Nx.set {a b : World} (h : Nx a b) (g i : Nat) (v : Value) (hg : a.heap.size ≤ g) : Nx a (b.setCell ⟨g, i, none⟩ v) := Below.setCell h (p := ⟨g, i, none⟩) hg v

/-- Worlds in which only some blocks have turned. -/
structure Chd (M : Nat → Prop) (w w' : World) : Prop where
  os : w'.os = w.os
  tape : w'.tape = w.tape
  output : w'.output = w.output
  size : w.heap.size ≤ w'.heap.size
  block : ∀ j, j < w.heap.size → ¬ M j → w'.heap[j]? = w.heap[j]?
section
variable {M M' : Nat → Prop} {w w' w'' : World}
theorem Chd.refl (w : World) : Chd M w w := ⟨rfl, rfl, rfl, Nat.le_refl _, fun _ _ _ => rfl⟩
theorem Chd.trans (h : Chd M w w') (k : Chd M w' w'') : Chd M w w'' :=
  ⟨k.os.trans h.os, k.tape.trans h.tape, k.output.trans h.output, Nat.le_trans h.size k.size, fun j hj hm => (k.block j (Nat.lt_of_lt_of_le hj h.size) hm).trans (h.block j hj hm)⟩
/-- What turns beyond the first world's blocks is no matter. -/
theorem Chd.then_ (h : Chd M w w') (k : Chd M' w' w'') (hm : ∀ j, j < w.heap.size → M' j → M j) : Chd M w w'' :=
  ⟨k.os.trans h.os, k.tape.trans h.tape, k.output.trans h.output, Nat.le_trans h.size k.size, fun j hj hn => (k.block j (Nat.lt_of_lt_of_le hj h.size) (fun e => hn (hm j hj e))).trans (h.block j hj hn)⟩
theorem Chd.mono (h : Chd M w w') (hm : ∀ j, j < w.heap.size → M j → M' j) : Chd M' w w' := ⟨h.os, h.tape, h.output, h.size, fun j hj hn => h.block j hj fun e => hn (hm j hj e)⟩
theorem Nx.chd (h : Nx w w') : Chd M w w' := ⟨h.os, h.tape, h.output, h.size, fun j hj _ => h.block j hj⟩
theorem Chd.below (h : Chd M w w') {B : Nat} (hB : B ≤ w.heap.size) (hm : ∀ j, j < B → ¬ M j) : Below B w w' := ⟨h.os, h.tape, h.output, h.size, fun j hj => h.block j (Nat.lt_of_lt_of_le hj hB) (hm j hj)⟩
theorem Chd.of_grown {r : Option Nat} (h : w.grownBy w' r) : Chd (fun j => r = some j) w w' := ⟨h.os, h.tape, h.output, h.size, fun j hj hn => h.block j hj (fun e => hn e.symm)⟩
theorem grown_set (w : World) (g i : Nat) (u : Value) : w.grownBy (w.setCell ⟨g, i, none⟩ u) (some g) :=
  ⟨rfl, rfl, rfl, by simp, fun k hk hne => heap_setCell_other w ⟨g, i, none⟩ k u (fun e => hne (by simp [e]))⟩
theorem Chd.set (w : World) (g i : Nat) (u : Value) : Chd (fun j => j = g) w (w.setCell ⟨g, i, none⟩ u) := (Chd.of_grown (grown_set w g i u)).mono fun j _ e => by simpa using e.symm
theorem Chd.alloc (h : Chd M w w') (o : Obj) : Chd M w (w'.alloc o) := h.trans ((Nx.refl w').alloc o).chd
theorem Chd.drew (h : Chd M w w') : Chd M w w'.drew := ⟨h.os, h.tape, h.output, h.size, h.block⟩
theorem Chd.drewN (h : Chd M w w') (n : Nat) : Chd M w (w'.drewN n) := ⟨h.os, h.tape, h.output, h.size, h.block⟩
end

/-! ### A block of cells -/
def BlkIs (w : World) (g : Nat) (t : TypeId) (cs : Array Value) : Prop := w.heap[g]? = some (.cells cs t (0, 0))
section
variable {w w' : World} {g : Nat} {t : TypeId} {cs : Array Value} {M : Nat → Prop}
theorem BlkIs.lt (h : BlkIs w g t cs) : g < w.heap.size := (Array.getElem?_eq_some_iff.1 h).1
theorem BlkIs.cell (h : BlkIs w g t cs) (i : Nat) : w.cell? ⟨g, i, none⟩ = cs[i]? := cell_of_row w g i cs t (0, 0) h
theorem BlkIs.frozen (h : BlkIs w g t cs) (i : Nat) : w.frozen? ⟨g, i, none⟩ = false := frozen_of_row w g i cs t h
theorem BlkIs.new (w : World) (t : TypeId) (cs : Array Value) : BlkIs (w.alloc (.cells cs t)) w.heap.size t cs := heap_alloc_new w _
theorem BlkIs.set (h : BlkIs w g t cs) (i : Nat) (u : Value) : BlkIs (w.setCell ⟨g, i, none⟩ u) g t (cs.setIfInBounds i u) := heap_setCell_same w g i cs t u h
theorem BlkIs.chd (h : BlkIs w g t cs) (hc : Chd M w w') (hm : ¬ M g) : BlkIs w' g t cs := (hc.block g h.lt hm).trans h
theorem BlkIs.nx (h : BlkIs w g t cs) (k : Nx w w') : BlkIs w' g t cs := (k.block g h.lt).trans h
theorem BlkIs.at_ (h : BlkIs w g t cs) {B : Nat} (k : Below B w w') (hB : g < B) : BlkIs w' g t cs := (k.block g hB).trans h
theorem BlkIs.drew (h : BlkIs w g t cs) : BlkIs w.drew g t cs := h
end

end Go.Proofs.YtlmfjalkgapcgaaDoor

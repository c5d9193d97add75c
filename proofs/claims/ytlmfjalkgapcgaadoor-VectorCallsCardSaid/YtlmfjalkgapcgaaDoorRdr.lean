/- Walks of package wire: readers. -/
import Derived.Test.YtlmfjalkgapcgaaDoorRead
namespace Go.Proofs.YtlmfjalkgapcgaaDoor
open Go.RowKit
set_option linter.unusedVariables false

/-! ### A block that is known whole -/
section
variable {w w' : World} {g : Nat} {t : TypeId} {cs : Array Value}
theorem BlkIs.grown (h : BlkIs w g t cs) {row : Option Nat} (hg : w.grownBy w' row) (hne : some g ≠ row) : BlkIs w' g t cs := (hg.block g h.lt hne).trans h
theorem BlkIs.below (h : BlkIs w g t cs) {B : Nat} (hb : Below B w w') (hlt : g < B) : BlkIs w' g t cs := (hb.block g hlt).trans h
theorem BlkIs.own_ne (h : BlkIs w g t cs) (ht : t ≠ 5) {B n c : Nat} {A : Option Addr} {l : List UInt8} (ho : Own w B A n c l) : (Value.slice A n c).ownBlock ≠ some g := by
  rcases ho.2 with ⟨hv, _⟩ | ⟨g', cap, cur, hv, _, hh, _⟩
  · rw [hv]; simp [Value.ownBlock]
  · rw [hv]
    intro he
    have : g' = g := by simpa [Value.ownBlock] using he
    subst this
    unfold BlkIs at h
    rw [h] at hh
    injection hh with hh
    injection hh with _ h2
    exact ht h2
end
theorem Own.grown {w w' : World} {B n c : Nat} {A : Option Addr} {l : List UInt8} (h : Own w B A n c l) {row : Option Nat} (hg : w.grownBy w' row) (hne : (Value.slice A n c).ownBlock = none ∨ (Value.slice A n c).ownBlock ≠ row) : Own w' B A n c l := World.ownsRow.kept h hg hne

/-! ### A reader in memory -/
def rcells (A : Option Addr) (n c at_ : Nat) (e : Int) : Array Value := #[.slice A n c, .int .i64 at_, .bool true, .int .i64 e]
/-- Block g is a reader of the bytes l, which are its own; at_ of them are read; its first error is e. -/
structure Rdr (w : World) (B g : Nat) (A : Option Addr) (n c : Nat) (l : List UInt8) (at_ : Nat) (e : Int) : Prop where
  blk : BlkIs w g 94 (rcells A n c at_ e)
  own : Own w B A n c l
  hat : at_ ≤ n
  hB : B ≤ g
section
variable {w w' : World} {B g n c at_ at2 : Nat} {A : Option Addr} {l : List UInt8} {e e2 : Int}
theorem Rdr.ne (h : Rdr w B g A n c l at_ e) : (Value.slice A n c).ownBlock ≠ some g := h.blk.own_ne (by decide) h.own
theorem Rdr.turn (h : Rdr w B g A n c l at_ e) (hg : w.grownBy w' (some g)) (hb : BlkIs w' g 94 (rcells A n c at2 e2)) (ha : at2 ≤ n) : Rdr w' B g A n c l at2 e2 :=
  ⟨hb, h.own.grown hg (.inr h.ne), ha, h.hB⟩
theorem Rdr.grown (h : Rdr w B g A n c l at_ e) {row : Option Nat} (hg : w.grownBy w' row) (h1 : some g ≠ row) (h2 : (Value.slice A n c).ownBlock = none ∨ (Value.slice A n c).ownBlock ≠ row) : Rdr w' B g A n c l at_ e :=
  ⟨h.blk.grown hg h1, h.own.grown hg h2, h.hat, h.hB⟩
theorem Rdr.below (h : Rdr w B g A n c l at_ e) (hb : Below w.heap.size w w') : Rdr w' B g A n c l at_ e := ⟨h.blk.below hb h.blk.lt, h.own.below hb, h.hat, h.hB⟩
theorem Rdr.c0 (h : Rdr w B g A n c l at_ e) : w.cell? ⟨g, 0, none⟩ = some (.slice A n c) := h.blk.cell 0
theorem Rdr.c1 (h : Rdr w B g A n c l at_ e) : w.cell? ⟨g, 1, none⟩ = some (.int .i64 at_) := h.blk.cell 1
theorem Rdr.c2 (h : Rdr w B g A n c l at_ e) : w.cell? ⟨g, 2, none⟩ = some (.bool true) := h.blk.cell 2
theorem Rdr.c3 (h : Rdr w B g A n c l at_ e) : w.cell? ⟨g, 3, none⟩ = some (.int .i64 e) := h.blk.cell 3
end

theorem err_any (w : World) (g : Nat) (e : Int) (h2 : w.cell? ⟨g, 2, none⟩ = some (.bool true)) (h3 : w.cell? ⟨g, 3, none⟩ = some (.int .i64 e)) :
    Calls Tryd.prog 62 #[.pointer (some ⟨g, 0, none⟩)] w fun e' w' => e' = .returned (.int .i64 e) ∧ w = w' := by
  go_enter Tryd.func62, Tryd.ntmps62
  go_wp2
  go_ret
  exact ⟨rfl, rfl⟩

theorem pos_left (w : World) (g n c at_ : Nat) (A : Option Addr) (h0 : w.cell? ⟨g, 0, none⟩ = some (.slice A n c)) (h1 : w.cell? ⟨g, 1, none⟩ = some (.int .i64 at_)) (hat : at_ ≤ n) (hn : n ≤ 9223372036854775807) :
    Calls Tryd.prog 65 #[.pointer (some ⟨g, 0, none⟩)] w fun e' w' => e' = .returned (.int .i64 ((n - at_ : Nat) : Int)) ∧ ∃ q, w' = w.drewN q := by
  have e1 : IntKind.i64.wrap ((n : Int) - at_) = ((n - at_ : Nat) : Int) := by rw [IntWalk.i64_in _ (by omega)]; omega
  go_enter Tryd.func65, Tryd.ntmps65
  go_wp2_with fail
  go_quiet (fail)
  go_wp2
  go_ret
  exact ⟨rfl, nq, rfl⟩

theorem grown_of_below {w w' : World} (h : Below w.heap.size w w') (row : Option Nat) : w.grownBy w' row := ⟨h.os, h.tape, h.output, h.size, fun k hk _ => h.block k hk⟩
theorem Rdr.of_below {w w' : World} {B g n c at_ : Nat} {A : Option Addr} {l : List UInt8} {e : Int} (h : Rdr w B g A n c l at_ e) (hb : Below w.heap.size w w') : Rdr w' B g A n c l at_ e ∧ w.grownBy w' (some g) := ⟨h.below hb, grown_of_below hb _⟩

/-- What position.piece and position.count leave: the reader has moved on by k bytes. -/
def PosPost (w : World) (B g : Nat) (A : Option Addr) (n c : Nat) (l : List UInt8) (at_ k : Nat) (er : Int) (v : Value) (e : Ending) (w' : World) : Prop :=
  e = .returned v ∧ Rdr w' B g A n c l (at_ + k) er ∧ w.grownBy w' (some g)

/-- A copy of a position in a new block. -/
theorem next_cells (w : World) (A : Option Addr) (n c at_ : Nat) (t : TypeId) :
    (w.alloc (.cells #[.slice A n c, .int .i64 at_] t)).cell? ⟨w.heap.size, 0, none⟩ = some (.slice A n c) ∧ (w.alloc (.cells #[.slice A n c, .int .i64 at_] t)).cell? ⟨w.heap.size, 1, none⟩ = some (.int .i64 at_) ∧
      (w.alloc (.cells #[.slice A n c, .int .i64 at_] t)).frozen? ⟨w.heap.size, 1, none⟩ = false := by
  refine ⟨by simp, by simp, by simp⟩

/-- What is known behind a number that was read by a copy of the position. -/
theorem next_after (w : World) (A : Option Addr) (n c at_ : Nat) (t : TypeId) (q : Nat) (u : Value) :
    ∃ W2, W2 = ((w.alloc (.cells #[.slice A n c, .int .i64 at_] t)).drewN q).setCell ⟨w.heap.size, 1, none⟩ u ∧ Below w.heap.size w W2 ∧ BlkIs W2 w.heap.size t #[.slice A n c, u] ∧ W2.heap.size = w.heap.size + 1 :=
  ⟨_, rfl, (below_drewN ((Below.refl _ _).alloc (Nat.le_refl _) _) q).setCell (p := ⟨w.heap.size, 1, none⟩) (Nat.le_refl _) _,
    (BlkIs.new w t #[.slice A n c, .int .i64 at_]).set 1 u, by simp⟩

/-- Behind a copy back: the reader stands at p + x. -/
theorem copied (w W3 : World) (B g n c at_ p2 : Nat) (A : Option Addr) (l : List UInt8) (er : Int) (h : Rdr w B g A n c l at_ er) (hb : Below w.heap.size w W3) (hp : p2 ≤ n) (u : Value) :
    ∃ W4, W4 = ((W3.setCell ⟨w.heap.size, 1, none⟩ u).setCell ⟨g, 0, none⟩ (.slice A n c)).setCell ⟨g, 1, none⟩ (.int .i64 (p2 : Nat)) ∧ Rdr W4 B g A n c l p2 er ∧ w.grownBy W4 (some g) := by
  have hlt := h.blk.lt
  have hb1 := hb.setCell (p := ⟨w.heap.size, 1, none⟩) (Nat.le_refl _) u
  have hg := grown_of_below hb1 (some g)
  have k1 := h.blk.below hb1 hlt
  have k2 := (k1.set 0 (.slice A n c)).set 1 (.int .i64 (p2 : Nat))
  have g2 : w.grownBy (((W3.setCell ⟨w.heap.size, 1, none⟩ u).setCell ⟨g, 0, none⟩ (.slice A n c)).setCell ⟨g, 1, none⟩ (.int .i64 (p2 : Nat))) (some g) := by
    refine ⟨hg.os, hg.tape, hg.output, by simpa using hg.size, fun i hi hne => ?_⟩
    have hne' : i ≠ g := fun e => hne (by rw [e])
    rw [Below.heap_setCell _ _ _ _ hne', Below.heap_setCell _ _ _ _ hne']
    exact hg.block i hi hne
  exact ⟨_, rfl, h.turn g2 k2 hp, g2⟩
theorem Rdr.drewN {w : World} {B g n c at_ : Nat} {A : Option Addr} {l : List UInt8} {e : Int} (h : Rdr w B g A n c l at_ e) (q : Nat) : Rdr (w.drewN q) B g A n c l at_ e := ⟨h.blk, h.own, h.hat, h.hB⟩
theorem grown_drewN {w w' : World} {row : Option Nat} (h : w.grownBy w' row) (q : Nat) : w.grownBy (w'.drewN q) row := ⟨h.os, h.tape, h.output, h.size, h.block⟩

end Go.Proofs.YtlmfjalkgapcgaaDoor

/- Package table: what a loop that appends to a list keeps. -/
import Derived.Test.YtekcphpeaoaaaaaTbList
namespace Go.Proofs.Ytekcphpeaoaaaaa
open Go.RowKit
set_option linter.unusedVariables false

def prOf (e : KV) : Pr := ⟨e.1, e.2, false⟩
/-- What was there when the loop began, but for the blocks of the iterator and of the list. -/
def Xof (W0 : World) (G0 : Nat → Prop) (bl : Nat) (j : Nat) : Prop := j < W0.heap.size ∧ ¬ G0 j ∧ j ≠ bl
structure Lp (W0 w : World) (bl : Nat) (X G : Nat → Prop) (l : List Pr) (W : World) : Prop where
  ex : ∃ H, LstAt W w.heap.size bl H l ∧ (∀ j, G j → ¬ H j) ∧ (∀ j, H j → ¬ X j)
  gg : ∀ j, G j → w.heap.size ≤ j
  ap : ∀ j, G j → ¬ X j
  nx : Nx w W
  fix : ∀ j, X j → W.heap[j]? = W0.heap[j]?
  sz : W0.heap.size ≤ W.heap.size
section
variable {W0 w : World} {bl : Nat} {X G G' : Nat → Prop} {l : List Pr} {W W' : World}
theorem Lp.mv (h : Lp W0 w bl X G l W) (hX : ∀ j, X j → j < W0.heap.size) (hw : w.heap.size ≤ W0.heap.size) (hm : Mv G W G' W') : Lp W0 w bl X G' l W' := by
  obtain ⟨H, hl, ha, hx⟩ := h.ex
  refine ⟨⟨H, hl.mv hm ha, hm.apart ha hl.cel, hx⟩, fun j hj => ?_, fun j hj hxj => ?_, ?_, fun j hj => ?_, Nat.le_trans h.sz hm.chd.size⟩
  · rcases (hm.new j hj).1 with e | e
    · exact h.gg j e
    · have := h.nx.size; omega
  · rcases (hm.new j hj).1 with e | e
    · exact h.ap j e hxj
    · have := hX j hxj; have := h.sz; omega
  · exact Nx.below h.nx (show Nx W W from Nx.refl W) (Nat.le_refl _) |>.trans (hm.chd.below h.nx.size fun j hj e => by have := h.gg j e; omega)
  · exact (hm.chd.block j (Nat.lt_of_lt_of_le (hX j hj) h.sz) (fun e => h.ap j e hj)).trans (h.fix j hj)
theorem Lp.next (h : Lp W0 w bl X G l W) (hX : ∀ j, X j → j < W0.heap.size) (hc : ∀ j, G j → Cel W j) (hw : w.heap.size ≤ W0.heap.size) (hn : Nx W W') : Lp W0 w bl X G l W' := h.mv hX hw (Mv.of_nx hn hc)
theorem Lp.bk {n : Nat} (h : Lp W0 w bl X G l W) (hX : ∀ j, X j → j < W0.heap.size) (hn : W0.heap.size ≤ n) (hw : w.heap.size ≤ W0.heap.size) (hb : Bk n W W') : Lp W0 w bl X G l W' := by
  obtain ⟨H, hl, ha, hx⟩ := h.ex
  refine ⟨⟨H, hl.bk hb, ha, hx⟩, h.gg, h.ap, ?_, fun j hj => ?_, Nat.le_trans h.sz hb.size⟩
  · exact Below.trans h.nx (hb.below (Nat.le_trans hw hn) h.nx.size)
  · exact (hb.block j (Nat.lt_of_lt_of_le (hX j hj) h.sz) (fun e => by have := e.1; have := hX j hj; omega)).trans (h.fix j hj)
/-- The list turned. -/
theorem Lp.push {l' : List Pr} {H H' : Nat → Prop} (h : Lp W0 w bl X G l W) (hX : ∀ j, X j → j < W0.heap.size) (hc : ∀ j, G j → Cel W j) (hw : w.heap.size ≤ W0.heap.size) (hl : LstAt W w.heap.size bl H l) (ha : ∀ j, G j → ¬ H j) (hx : ∀ j, H j → ¬ X j) (hl' : LstAt W' w.heap.size bl H' l') (hm : Mv H W H' W') :
    Lp W0 w bl X G l' W' ∧ Kp X G W W' := by
  have ha' : ∀ j, H j → ¬ G j := fun j a b => ha j b a
  refine ⟨⟨⟨H', hl', fun j hj e => hm.apart ha' hc j e hj, fun j hj hxj => ?_⟩, h.gg, h.ap, ?_, fun j hj => ?_, Nat.le_trans h.sz hm.chd.size⟩, hm.chd.mono fun j _ e k => k.elim (ha' j e) (hx j e)⟩
  · rcases (hm.new j hj).1 with e | e
    · exact hx j e hxj
    · have := hX j hxj; have := h.sz; omega
  · exact Below.trans h.nx (hm.chd.below h.nx.size fun j hj e => by have := hl.ge j e; omega)
  · exact (hm.chd.block j (Nat.lt_of_lt_of_le (hX j hj) h.sz) (fun e => hx j e hj)).trans (h.fix j hj)
end
end Go.Proofs.Ytekcphpeaoaaaaa

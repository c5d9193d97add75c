/- Package table: a list of pairs in a variable's box, to which is appended. -/
import Derived.Test.YtekcphpeaoaaaaaTbMake
namespace Go.Proofs.Ytekcphpeaoaaaaa
open Go.RowKit
set_option linter.unusedVariables false

def prsC (l : List Pr) : List Value := l.flatMap prC
theorem prsC_length (l : List Pr) : (prsC l).length = l.length * 3 := by
  induction l with
  | nil => rfl
  | cons p l ih =>
    show (prC p ++ prsC l).length = _
    rw [List.length_append, ih, List.length_cons]
    simp [prC]; omega
theorem prsC_append (a b : List Pr) : prsC (a ++ b) = prsC a ++ prsC b := by unfold prsC; rw [List.flatMap_append]
theorem prsC_one (p : Pr) : prsC [p] = prC p := by simp [prsC]
theorem own_row_blk' {W : World} {B size : Nat} {e : TypeId} {v : Value} {n : Nat} {xs : List Value} (h : W.ownsRow B e size v n xs) {j : Nat} (hj : v.ownBlock = some j) : B ≤ j ∧ ∃ cs, BlkIs W j e cs := by
  rcases h.2 with ⟨rfl, _⟩ | ⟨g, cap, cur, rfl, hb, hg, _⟩
  · cases hj
  · obtain rfl : g = j := by simpa [Value.ownBlock] using hj
    exact ⟨hb, cur, hg⟩
/-- Block bl is a box with a slice that holds these pairs; its blocks are those of H. -/
def LstAt (W : World) (B bl : Nat) (H : Nat → Prop) (l : List Pr) : Prop :=
  ∃ v, BlkIs W bl 33 #[v] ∧ W.ownsRow B 40 3 v l.length (prsC l) ∧ B ≤ bl ∧ ∀ j, H j ↔ (j = bl ∨ v.ownBlock = some j)
section
variable {W W' : World} {B bl : Nat} {H : Nat → Prop} {l : List Pr}
theorem LstAt.cel (h : LstAt W B bl H l) : ∀ j, H j → Cel W j := fun j hj => by
  obtain ⟨v, hb, hr, _, hg⟩ := h
  rcases (hg j).1 hj with rfl | e
  · exact hb.cel
  · obtain ⟨_, cs, hc⟩ := own_row_blk' hr e
    exact hc.cel
theorem LstAt.ge (h : LstAt W B bl H l) : ∀ j, H j → B ≤ j := fun j hj => by
  obtain ⟨v, hb, hr, hp, hg⟩ := h
  rcases (hg j).1 hj with rfl | e
  · exact hp
  · exact (own_row_blk' hr e).1
theorem LstAt.keep (h : LstAt W B bl H l) (hk : ∀ j, H j → W'.heap[j]? = W.heap[j]?) : LstAt W' B bl H l := by
  obtain ⟨v, hb, hr, hp, hg⟩ := h
  exact ⟨v, (hk bl ((hg bl).2 (.inl rfl))).trans hb, row_of_blk hr (fun j hj => hk j ((hg j).2 (.inr hj))), hp, hg⟩
theorem LstAt.nx (h : LstAt W B bl H l) (hn : Nx W W') : LstAt W' B bl H l := h.keep fun j hj => hn.block j (h.cel j hj).lt
theorem LstAt.mv {G G' : Nat → Prop} (h : LstAt W B bl H l) (hm : Mv G W G' W') (hd : ∀ j, G j → ¬ H j) : LstAt W' B bl H l := h.keep fun j hj => hm.other hd hj (h.cel j hj)
theorem LstAt.bk {n : Nat} (h : LstAt W B bl H l) (hk : Bk n W W') : LstAt W' B bl H l := h.keep fun j hj => hk.blk (h.cel j hj)
theorem LstAt.new (W : World) (B : Nat) (hB : B ≤ W.heap.size) : LstAt (W.alloc (.cells #[.slice none 0 0] 33)) B W.heap.size (fun j => j = W.heap.size) [] :=
  ⟨_, BlkIs.new W _ _, World.ownsRow_nil _ _ _ _, hB, fun j => ⟨.inl, fun e => e.elim id (fun e => by cases e)⟩⟩
end
theorem info_pair : (Try.prog.info? 40).map (fun i => (i.zero, i.size, i.bytes)) = some (some (.agg #[.string ⟨#[]⟩, .string ⟨#[]⟩, .bool false]), 3, 40) := by kernel_rfl
theorem cells_pr (w : World) (p : Pr) : ∀ (j : Nat) (u : Value), (prsC [p])[j]? = some u → (w.alloc (.cells (prC p).toArray 40)).cell? ((⟨w.heap.size, 0, none⟩ : Addr).add j) = some u := fun j u h => by
  rw [prsC_one] at h
  rw [add_plain, Nat.zero_add, (BlkIs.new w 40 (prC p).toArray).cell]
  simpa using h
theorem prC_plain (p : Pr) : ∀ u ∈ prsC [p], u.oneCell' = true := by
  intro u hu
  rw [prsC_one] at hu
  simp only [prC, List.mem_cons, List.not_mem_nil, or_false] at hu
  rcases hu with rfl | rfl | rfl <;> rfl
/-- A pair is appended. -/
theorem lst_push {W w3 : World} {B bl : Nat} {H : Nat → Prop} {l : List Pr} {p : Pr} {v : Value} {g cap : Nat} {cs : Array Value} {e : TypeId} (hb : BlkIs W bl 33 #[v]) (hr : W.ownsRow B 40 3 v l.length (prsC l)) (hp : B ≤ bl) (hg : ∀ j, H j ↔ (j = bl ∨ v.ownBlock = some j))
    (hown : w3.ownsRow B 40 3 (.slice (some ⟨g, 0, none⟩) (l.length + 1) cap) (l.length + 1) (prsC l ++ prsC [p])) (hgrow : (W.alloc (.cells cs e)).grownBy w3 v.ownBlock) (hat : v.ownBlock = some g ∨ g = W.heap.size + 1) :
    w3.cell? ⟨bl, 0, none⟩ = some v ∧ w3.frozen? ⟨bl, 0, none⟩ = false ∧
    ∃ H', LstAt (w3.setCell ⟨bl, 0, none⟩ (.slice (some ⟨g, 0, none⟩) (l.length + 1) cap)) B bl H' (l ++ [p]) ∧ Mv H W H' (w3.setCell ⟨bl, 0, none⟩ (.slice (some ⟨g, 0, none⟩) (l.length + 1) cap)) := by
  have hne : v.ownBlock ≠ some bl := fun e => by
    obtain ⟨_, cs, hc⟩ := own_row_blk' hr e
    have := hb.symm.trans hc
    simp at this
  have hgp : g ≠ bl := fun e => by
    rcases hat with h | h
    · exact hne (by rw [h, e])
    · have := hb.lt; omega
  have C3 : Chd (fun j => v.ownBlock = some j) W w3 := (Nx.alloc (Nx.refl W) _).chd.trans (Chd.of_grown hgrow)
  have b3 : BlkIs w3 bl 33 #[v] := hb.chd C3 hne
  refine ⟨by rw [b3.cell]; rfl, b3.frozen 0, ?_⟩
  have C4 : Chd (fun j => j = bl ∨ v.ownBlock = some j) W (w3.setCell ⟨bl, 0, none⟩ (.slice (some ⟨g, 0, none⟩) (l.length + 1) cap)) := (C3.mono fun _ _ e => .inr e).trans ((Chd.set w3 bl 0 _).mono fun _ _ e => .inl e)
  have r4 : (w3.setCell ⟨bl, 0, none⟩ (.slice (some ⟨g, 0, none⟩) (l.length + 1) cap)).ownsRow B 40 3 (.slice (some ⟨g, 0, none⟩) (l.length + 1) cap) (l.length + 1) (prsC l ++ prsC [p]) :=
    row_of_blk hown fun j hj => (Chd.set w3 bl 0 _).block j (by
      obtain ⟨_, cs, hc⟩ := own_row_blk' hown hj
      exact hc.lt) (fun e => hgp (by rw [← e]; simpa [Value.ownBlock] using hj))
  have P : LstAt (w3.setCell ⟨bl, 0, none⟩ (.slice (some ⟨g, 0, none⟩) (l.length + 1) cap)) B bl (fun j => j = bl ∨ j = g) (l ++ [p]) :=
    ⟨_, b3.set 0 _, by
      rw [prsC_append, List.length_append, List.length_singleton]
      exact r4, hp, fun j => ⟨fun e => e.imp id (fun e => by rw [e]; rfl), fun e => e.imp id (fun e => by simpa [Value.ownBlock] using e.symm)⟩⟩
  refine ⟨_, P, ⟨C4.mono fun j _ e => (hg j).2 e, fun j hj => ?_, fun j hj => ⟨?_, P.cel j hj⟩⟩⟩
  · rcases (hg j).1 hj with rfl | e
    · exact hb.cel
    · obtain ⟨_, cs, hc⟩ := own_row_blk' hr e
      exact hc.cel
  · rcases hj with rfl | rfl
    · exact .inl ((hg _).2 (.inl rfl))
    · rcases hat with h | h
      · exact .inl ((hg _).2 (.inr h))
      · exact .inr (by omega)
/-- A list of pairs that came back from a call: nil, or a row of new memory. -/
def Row (W : World) (B : Nat) (v : Value) (l : List Pr) : Prop := W.ownsRow B 40 3 v l.length (prsC l)
theorem LstAt.row {W : World} {B bl : Nat} {H : Nat → Prop} {l : List Pr} (h : LstAt W B bl H l) : ∃ v, W.cell? ⟨bl, 0, none⟩ = some v ∧ Row W B v l := by
  obtain ⟨v, hb, hr, _, _⟩ := h
  exact ⟨v, by rw [hb.cell]; rfl, hr⟩
end Go.Proofs.Ytekcphpeaoaaaaa

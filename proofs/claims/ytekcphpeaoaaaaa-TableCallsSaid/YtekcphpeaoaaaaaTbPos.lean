/- Package table: positions in a tree. -/
import Derived.Test.YtekcphpeaoaaaaaTbPut
import Derived.Test.YtekcphpeaoaaaaaTbRange
import Derived.Deep.AppendLies
import Derived.WalkSmall
import Derived.BigRegion
namespace Go.Proofs.Ytekcphpeaoaaaaa
open Go.RowKit
set_option linter.unusedVariables false

def ptrV (b : Nat) : Value := .pointer (some ⟨b, 0, none⟩)
/-- Nodes that are ahead, the next one first. -/
abbrev Stk := List (Nat × T)
def flow1 : T → List KV
  | .nil => []
  | .nd _ k v r => (k, v) :: r.pairs
def flow (s : Stk) : List KV := s.flatMap fun e => flow1 e.2
theorem flow_cons (e : Nat × T) (s : Stk) : flow (e :: s) = flow1 e.2 ++ flow s := rfl
def StkIn (w : World) (B : Nat) (s : Stk) : Prop := ∀ e ∈ s, In w B (ptrV e.1) e.2 ∧ e.2 ≠ .nil ∧ Srt e.2.pairs ∧ e.2.size ≤ 100000000
theorem stk_len {w : World} {B : Nat} : ∀ {s : Stk}, StkIn w B s → s.length ≤ (flow s).length
  | [], _ => Nat.le_refl _
  | (b, t) :: s, h => by
    have ih := stk_len (fun e he => h e (List.mem_cons_of_mem _ he) : StkIn w B s)
    have h1 := (h _ List.mem_cons_self).2.1
    cases t with
    | nil => exact absurd rfl h1
    | nd l k v r => rw [flow_cons]; simp only [List.length_cons, List.length_append, flow1]; omega
def rowOf (s : Stk) : List Value := s.reverse.map fun e => ptrV e.1
/-- Block pb is a position with those nodes ahead; its blocks are those of G. -/
def PosAt (W : World) (B pb : Nat) (G : Nat → Prop) (s : Stk) : Prop :=
  ∃ v, BlkIs W pb 86 #[v] ∧ W.ownsRow B 22 1 v s.length (rowOf s) ∧ B ≤ pb ∧ ∀ j, G j ↔ (j = pb ∨ v.ownBlock = some j)
theorem own_row_blk {W : World} {B : Nat} {e : TypeId} {v : Value} {n : Nat} {xs : List Value} (h : W.ownsRow B e 1 v n xs) {j : Nat} (hj : v.ownBlock = some j) : B ≤ j ∧ ∃ cs, BlkIs W j e cs := by
  rcases h.2 with ⟨rfl, _⟩ | ⟨g, cap, cur, rfl, hb, hg, _⟩
  · cases hj
  · obtain rfl : g = j := by simpa [Value.ownBlock] using hj
    exact ⟨hb, cur, hg⟩
theorem row_of_blk {W W' : World} {B : Nat} {e : TypeId} {v : Value} {n size : Nat} {xs : List Value} (h : W.ownsRow B e size v n xs) (hk : ∀ j, v.ownBlock = some j → W'.heap[j]? = W.heap[j]?) : W'.ownsRow B e size v n xs := by
  refine ⟨h.1, ?_⟩
  rcases h.2 with hv | ⟨g, cap, cur, hv, hb, hg, r⟩
  · exact .inl hv
  · exact .inr ⟨g, cap, cur, hv, hb, (hk g (by rw [hv]; rfl)).trans hg, r⟩
section
variable {W W' : World} {B pb : Nat} {G : Nat → Prop} {s : Stk}
theorem PosAt.cel (h : PosAt W B pb G s) : ∀ j, G j → Cel W j := fun j hj => by
  obtain ⟨v, hb, hr, _, hg⟩ := h
  rcases (hg j).1 hj with rfl | e
  · exact hb.cel
  · obtain ⟨_, cs, hc⟩ := own_row_blk hr e
    exact hc.cel
theorem PosAt.ge (h : PosAt W B pb G s) : ∀ j, G j → B ≤ j := fun j hj => by
  obtain ⟨v, hb, hr, hp, hg⟩ := h
  rcases (hg j).1 hj with rfl | e
  · exact hp
  · exact (own_row_blk hr e).1
theorem PosAt.keep (h : PosAt W B pb G s) (hk : ∀ j, G j → W'.heap[j]? = W.heap[j]?) : PosAt W' B pb G s := by
  obtain ⟨v, hb, hr, hp, hg⟩ := h
  exact ⟨v, (hk pb ((hg pb).2 (.inl rfl))).trans hb, row_of_blk hr (fun j hj => hk j ((hg j).2 (.inr hj))), hp, hg⟩
theorem PosAt.nx (h : PosAt W B pb G s) (hn : Nx W W') : PosAt W' B pb G s := h.keep fun j hj => hn.block j (h.cel j hj).lt
theorem PosAt.kp {X : Nat → Prop} (h : PosAt W B pb G s) (hk : Kp X G W W') : PosAt W' B pb G s := h.keep fun j hj => hk.own hj (h.cel j hj)
theorem PosAt.mv {H H' : Nat → Prop} (h : PosAt W B pb G s) (hm : Mv H W H' W') (hd : ∀ j, H j → ¬ G j) : PosAt W' B pb G s := h.keep fun j hj => hm.other hd hj (h.cel j hj)
theorem PosAt.bk {n : Nat} (h : PosAt W B pb G s) (hk : Bk n W W') : PosAt W' B pb G s := h.keep fun j hj => hk.blk (h.cel j hj)
end
theorem mv_below {G G' : Nat → Prop} {W W' : World} {B : Nat} (h : Mv G W G' W') (hg : ∀ j, G j → B ≤ j) (hB : B ≤ W.heap.size) : Below B W W' := h.chd.below hB fun j hj e => by have := hg j e; omega

theorem node_info : (Try.prog.info? 22).map (fun i => (i.zero, i.size, i.bytes)) = some (some (.pointer none), 1, 8) := by kernel_rfl
theorem cell_one (w : World) (v : Value) (e : TypeId) : ∀ (j : Nat) (u : Value), [v][j]? = some u → (w.alloc (.cells #[v] e)).cell? ((⟨w.heap.size, 0, none⟩ : Addr).add j) = some u := fun j u h => by
  cases j with
  | zero => simp at h; subst h; simp [add_plain]
  | succ j => simp at h

/-- A node is put ahead. -/
theorem pos_push {W w3 : World} {B pb b : Nat} {G : Nat → Prop} {s : Stk} {t : T} {v : Value} {g cap : Nat} {cs : Array Value} {e : TypeId} (hb : BlkIs W pb 86 #[v]) (hr : W.ownsRow B 22 1 v s.length (rowOf s)) (hp : B ≤ pb) (hg : ∀ j, G j ↔ (j = pb ∨ v.ownBlock = some j))
    (hown : w3.ownsRow B 22 1 (.slice (some ⟨g, 0, none⟩) (s.length + 1) cap) (s.length + 1) (rowOf s ++ [ptrV b])) (hgrow : (W.alloc (.cells cs e)).grownBy w3 v.ownBlock) (hat : v.ownBlock = some g ∨ g = W.heap.size + 1) :
    ∃ G', PosAt (w3.setCell ⟨pb, 0, none⟩ (.slice (some ⟨g, 0, none⟩) (s.length + 1) cap)) B pb G' ((b, t) :: s) ∧ Mv G W G' (w3.setCell ⟨pb, 0, none⟩ (.slice (some ⟨g, 0, none⟩) (s.length + 1) cap)) := by
  have hne : v.ownBlock ≠ some pb := fun e => by
    obtain ⟨_, cs, hc⟩ := own_row_blk hr e
    have := hb.symm.trans hc
    simp at this
  have hgp : g ≠ pb := fun e => by
    rcases hat with h | h
    · exact hne (by rw [h, e])
    · have := hb.lt; omega
  have C3 : Chd (fun j => v.ownBlock = some j) W w3 := (Nx.alloc (Nx.refl W) _).chd.trans (Chd.of_grown hgrow)
  have b3 : BlkIs w3 pb 86 #[v] := hb.chd C3 hne
  have C4 : Chd (fun j => j = pb ∨ v.ownBlock = some j) W (w3.setCell ⟨pb, 0, none⟩ (.slice (some ⟨g, 0, none⟩) (s.length + 1) cap)) := (C3.mono fun _ _ e => .inr e).trans ((Chd.set w3 pb 0 _).mono fun _ _ e => .inl e)
  have r4 : (w3.setCell ⟨pb, 0, none⟩ (.slice (some ⟨g, 0, none⟩) (s.length + 1) cap)).ownsRow B 22 1 (.slice (some ⟨g, 0, none⟩) (s.length + 1) cap) (s.length + 1) (rowOf s ++ [ptrV b]) :=
    row_of_blk hown fun j hj => (Chd.set w3 pb 0 _).block j (by
      obtain ⟨_, cs, hc⟩ := own_row_blk hown hj
      exact hc.lt) (fun e => hgp (by rw [← e]; simpa [Value.ownBlock] using hj))
  have P : PosAt (w3.setCell ⟨pb, 0, none⟩ (.slice (some ⟨g, 0, none⟩) (s.length + 1) cap)) B pb (fun j => j = pb ∨ j = g) ((b, t) :: s) :=
    ⟨_, b3.set 0 _, by
      have : rowOf ((b, t) :: s) = rowOf s ++ [ptrV b] := by unfold rowOf; rw [List.reverse_cons, List.map_append]; rfl
      rw [this]
      exact r4, hp, fun j => ⟨fun e => e.imp id (fun e => by rw [e]; rfl), fun e => e.imp id (fun e => by simpa [Value.ownBlock] using e.symm)⟩⟩
  refine ⟨_, P, ⟨C4.mono fun j _ e => (hg j).2 e, fun j hj => ?_, fun j hj => ⟨?_, P.cel j hj⟩⟩⟩
  · rcases (hg j).1 hj with rfl | e
    · exact hb.cel
    · obtain ⟨_, cs, hc⟩ := own_row_blk hr e
      exact hc.cel
  · rcases hj with rfl | rfl
    · exact .inl ((hg _).2 (.inl rfl))
    · rcases hat with h | h
      · exact .inl ((hg _).2 (.inr h))
      · exact .inr (by omega)
end Go.Proofs.Ytekcphpeaoaaaaa

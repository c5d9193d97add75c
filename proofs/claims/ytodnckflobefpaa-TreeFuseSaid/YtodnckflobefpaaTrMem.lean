/- A tree in memory: which blocks are its own, what each holds, and what keeps that. No walk. -/
import Derived.Test.YtodnckflobefpaaMem
import Derived.Test.YtodnckflobefpaaTrPure
import Derived.Maps.OwnSet
namespace Go.Proofs.Ytodnckflobefpaa
open Go.RowKit Go.Maps
set_option linter.unusedVariables false

/-! ### Worlds in which only some blocks have turned -/
structure Chd (M : Nat → Prop) (w w' : World) : Prop where
  os : w'.os = w.os
  tape : w'.tape = w.tape
  output : w'.output = w.output
  size : w.heap.size ≤ w'.heap.size
  block : ∀ j, j < w.heap.size → ¬ M j → w'.heap[j]? = w.heap[j]?
section
variable {M M' : Nat → Prop} {w w' w'' : World}
theorem Chd.refl (w : World) : Chd M w w := ⟨rfl, rfl, rfl, Nat.le_refl _, fun _ _ _ => rfl⟩
theorem Chd.trans (h : Chd M w w') (k : Chd M w' w'') : Chd M w w'' :=
  ⟨k.os.trans h.os, k.tape.trans h.tape, k.output.trans h.output, Nat.le_trans h.size k.size, fun j hj hm => (k.block j (Nat.lt_of_lt_of_le hj h.size) hm).trans (h.block j hj hm)⟩
/-- What turns beyond the first world's blocks is no matter. -/
theorem Chd.then_ (h : Chd M w w') (k : Chd M' w' w'') (hm : ∀ j, j < w.heap.size → M' j → M j) : Chd M w w'' :=
  ⟨k.os.trans h.os, k.tape.trans h.tape, k.output.trans h.output, Nat.le_trans h.size k.size, fun j hj hn => (k.block j (Nat.lt_of_lt_of_le hj h.size) (fun e => hn (hm j hj e))).trans (h.block j hj hn)⟩
theorem Chd.mono (h : Chd M w w') (hm : ∀ j, j < w.heap.size → M j → M' j) : Chd M' w w' := ⟨h.os, h.tape, h.output, h.size, fun j hj hn => h.block j hj fun e => hn (hm j hj e)⟩
theorem Chd.of_below (h : Below w.heap.size w w') : Chd M w w' := ⟨h.os, h.tape, h.output, h.size, fun j hj _ => h.block j hj⟩
theorem Chd.below (h : Chd M w w') {B : Nat} (hB : B ≤ w.heap.size) (hm : ∀ j, j < B → ¬ M j) : Below B w w' := ⟨h.os, h.tape, h.output, h.size, fun j hj => h.block j (Nat.lt_of_lt_of_le hj hB) (hm j hj)⟩
theorem Chd.of_grown {b : Nat} (h : w.grownBy w' (some b)) : Chd (fun j => j = b) w w' := ⟨h.os, h.tape, h.output, h.size, fun j hj hn => h.block j hj (fun e => hn (by simpa using e))⟩
theorem Chd.of_grown_none (h : w.grownBy w' none) : Chd M w w' := ⟨h.os, h.tape, h.output, h.size, fun j hj _ => h.block j hj (fun e => by cases e)⟩
theorem grown_set (w : World) (g i : Nat) (u : Value) : w.grownBy (w.setCell ⟨g, i, none⟩ u) (some g) :=
  ⟨rfl, rfl, rfl, by simp, fun k hk hne => heap_setCell_other w ⟨g, i, none⟩ k u (fun e => hne (by simp [e]))⟩
theorem Chd.set (w : World) (g i : Nat) (u : Value) : Chd (fun j => j = g) w (w.setCell ⟨g, i, none⟩ u) := Chd.of_grown (grown_set w g i u)
theorem Chd.drew (h : Chd M w w') : Chd M w w'.drew := ⟨h.os, h.tape, h.output, h.size, h.block⟩
theorem Chd.drewN (h : Chd M w w') (n : Nat) : Chd M w (w'.drewN n) := ⟨h.os, h.tape, h.output, h.size, h.block⟩
end

/-! ### A block of cells -/
def BlkIs (w : World) (g : Nat) (t : TypeId) (cs : Array Value) : Prop := w.heap[g]? = some (.cells cs t (0, 0))
section
variable {w w' : World} {g : Nat} {t : TypeId} {cs : Array Value} {M : Nat → Prop}
theorem BlkIs.lt (h : BlkIs w g t cs) : g < w.heap.size := (Array.getElem?_eq_some_iff.1 h).1
theorem BlkIs.cell (h : BlkIs w g t cs) (i : Nat) : w.cell? ⟨g, i, none⟩ = cs[i]? := cell_of_row w g i cs t (0, 0) h
theorem BlkIs.frozen (h : BlkIs w g t cs) (i : Nat) : w.frozen? ⟨g, i, none⟩ = false := frozen_of_row w g i cs t h
theorem BlkIs.new (w : World) (t : TypeId) (cs : Array Value) : BlkIs (w.alloc (.cells cs t)) w.heap.size t cs := heap_alloc_new w _
theorem BlkIs.set (h : BlkIs w g t cs) (i : Nat) (u : Value) : BlkIs (w.setCell ⟨g, i, none⟩ u) g t (cs.setIfInBounds i u) := heap_setCell_same w g i cs t u h
theorem BlkIs.chd (h : BlkIs w g t cs) (hc : Chd M w w') (hm : ¬ M g) : BlkIs w' g t cs := (hc.block g h.lt hm).trans h
theorem BlkIs.drew (h : BlkIs w g t cs) : BlkIs w.drew g t cs := h
end
theorem own_chd {w w' : World} {M : Nat → Prop} {B n c : Nat} {A : Option Addr} {l : List UInt8} (h : Own w B A n c l) (hc : Chd M w w') (hm : ∀ g, A = some ⟨g, 0, none⟩ → ¬ M g) : Own w' B A n c l := by
  refine ⟨h.1, ?_⟩
  rcases h.2 with hv | ⟨g, cap, cur, hv, hbb, hg, r⟩
  · exact .inl hv
  · have hA : A = some ⟨g, 0, none⟩ := by simp only [Value.slice.injEq] at hv; exact hv.1
    exact .inr ⟨g, cap, cur, hv, hbb, (hc.block g (Array.getElem?_eq_some_iff.1 hg).1 (hm g hA)).trans hg, r⟩
theorem row_chd {w w' : World} {M : Nat → Prop} {B n : Nat} {e : TypeId} {v : Value} {l : List Value} (h : w.ownsRow B e 1 v n l) (hc : Chd M w w') (hm : ∀ g, v.ownBlock = some g → ¬ M g) : w'.ownsRow B e 1 v n l := by
  refine ⟨h.1, ?_⟩
  rcases h.2 with hv | ⟨g, cap, cur, hv, hbb, hg, r⟩
  · exact .inl hv
  · have hA : v.ownBlock = some g := by rw [hv]; rfl
    exact .inr ⟨g, cap, cur, hv, hbb, (hc.block g (Array.getElem?_eq_some_iff.1 hg).1 (hm g hA)).trans hg, r⟩

/-! ### Maps of files -/
def ptrE : Value → Option (DataW Unit × List MemPlace)
  | .pointer none => some (.nil, [])
  | .pointer (some ⟨b, 0, none⟩) => some (.lit (.int .i64 (b : Nat)), [])
  | _ => none
theorem ptrE_nil {v : Value} {ps : List MemPlace} (h : ptrE v = some (.nil, ps)) : v = .pointer none := by
  unfold ptrE at h
  split at h
  · rfl
  · simp at h
  · cases h
theorem ptrE_ptr {v : Value} {ps : List MemPlace} {b : Nat} (h : ptrE v = some (.lit (.int .i64 (b : Nat)), ps)) : v = .pointer (some ⟨b, 0, none⟩) := by
  unfold ptrE at h
  split at h
  · simp at h
  · rename_i b'
    have h := (Option.some.inj h)
    have h := congrArg Prod.fst h
    simp only [DataW.lit.injEq, Lit.int.injEq, true_and] at h
    rw [show b' = b from by omega]
  · cases h
def fptr (b : Nat) : Value := .pointer (some ⟨b, 0, none⟩)
def MapAt (w : World) (b : Nat) (blk : Nat → Nat) (l : Dir) : Prop := w.ownsMap Try.prog 9 ptrE b l.length (dat blk l)
theorem strK : Keyed Try.prog 9 := string_keyed Try.underlying9
theorem zeroF (w : World) : (zeroValue 66).run Try.prog w = .ok (.pointer none) w := by kernel_rfl
section
variable {w w' : World} {b : Nat} {blk : Nat → Nat} {l : Dir} {M : Nat → Prop}
theorem MapAt.lt (h : MapAt w b blk l) : b < w.heap.size := World.ownsMap.lt h
theorem MapAt.chd (h : MapAt w b blk l) (hc : Chd M w w') (hm : ¬ M b) : MapAt w' b blk l := by
  have hlt := h.lt
  obtain ⟨es, clock, hb, F, hs, hD⟩ := h
  exact ⟨es, clock, (hc.block b hlt hm).trans hb, F, hs, hD⟩
theorem MapAt.size {n : Nat} (h : w.ownsMap Try.prog 9 ptrE b n (dat blk l)) : MapAt w b blk l := by
  obtain ⟨es, clock, hb, F, hs, hD⟩ := h
  refine ⟨es, clock, hb, F, ?_, hD⟩
  have h1 := congrArg (fun d : DataW Unit => match d with | .map es => es.length | _ => 0) hD
  simp only [dat, List.length_map] at h1
  rw [h1, length_read]
  exact Nat.le_refl _
theorem MapAt.congr (h : MapAt w b blk l) {blk' : Nat → Nat} {n : Nat} (hl : ∀ e ∈ l, e.2 < n) (hb : ∀ i, i < n → blk' i = blk i) : MapAt w b blk' l := by
  unfold MapAt at *
  rw [dat_congr hl hb]
  exact h
theorem MapAt.found (h : MapAt w b blk l) (p : Str) (hp : p.length ≤ maxLen) :
    (Instr.lookup 61 (.map (some b)) (.string ⟨p.toArray⟩) false).run Try.prog w = .ok (match look l p with | some f => fptr (blk f) | none => .pointer none) w := by
  have hkey : keyOf Try.prog 9 (.string ⟨p.toArray⟩) = some (.string p) := WideMaps.keyOf_string_mk (s := ⟨p.toArray⟩) Try.underlying9 (by show p.toArray.size ≤ maxLen; simpa using hp)
  obtain ⟨v, ps, hrun, hv⟩ := World.ownsMap.lookup h strK Try.underlying61 (zeroF w) (show ptrE (.pointer none) = some (.nil, []) from rfl) hkey
  rw [hrun]
  rw [dat_look] at hv
  cases e : look l p with
  | none => rw [e] at hv; rw [ptrE_nil hv]
  | some f => rw [e] at hv; rw [ptrE_ptr hv]; rfl
theorem MapAt.store (h : MapAt w b blk l) (p : Str) (f : Nat) (hp : p.length ≤ maxLen) (hl : l.length < maxLen) :
    ∃ w', (Instr.mapUpdate 61 (.map (some b)) (.string ⟨p.toArray⟩) (fptr (blk f))).run Try.prog w = .ok () w' ∧ MapAt w' b blk (put l p f) ∧ w.grownBy w' (some b) := by
  have hkey : keyOf Try.prog 9 (.string ⟨p.toArray⟩) = some (.string p) := WideMaps.keyOf_string_mk (s := ⟨p.toArray⟩) Try.underlying9 (by show p.toArray.size ≤ maxLen; simpa using hp)
  obtain ⟨w', hrun, h1, h2⟩ := World.ownsMap.update h strK Try.underlying61 hl hkey (show ptrE (fptr (blk f)) = some (.lit (.int .i64 (blk f : Nat)), []) from rfl)
  rw [dat_put] at h1
  exact ⟨w', hrun, MapAt.size h1, h2⟩
theorem MapAt.drop (h : MapAt w b blk l) (p : Str) (hp : p.length ≤ maxLen) (ty : TypeId) :
    ∃ w', (Builtin.delete_ #[61, 9] ty #[.map (some b), .string ⟨p.toArray⟩]).run Try.prog w = .ok (.tuple #[]) w' ∧ MapAt w' b blk (era l p) ∧ w.grownBy w' (some b) := by
  have hkey : keyOf Try.prog 9 (.string ⟨p.toArray⟩) = some (.string p) := WideMaps.keyOf_string_mk (s := ⟨p.toArray⟩) Try.underlying9 (by show p.toArray.size ≤ maxLen; simpa using hp)
  obtain ⟨w', hrun, h1, h2⟩ := World.ownsMap.drop h strK Try.underlying61 hkey ty
  rw [dat_era] at h1
  exact ⟨w', hrun, MapAt.size h1, h2.grown⟩
end
theorem MapAt.made (w : World) (blk : Nat → Nat) : MapAt (w.alloc (.map #[] 0)) w.heap.size blk [] := World.ownsMap_made w _ _ _

/-! ### Files, changes, trees -/
/-- A slice's block, if it has one, bears the tag. -/
def Tg (tag : Nat → Nat) (A : Option Addr) (t : Nat) : Prop := ∀ g, A = some ⟨g, 0, none⟩ → tag g = t
structure FileAt (w : World) (tag : Nat → Nat) (fb i : Nat) (x : Fil) : Prop where
  ex : ∃ A n c A2 n2 c2, BlkIs w fb 69 #[.slice A n c, .slice A2 n2 c2, .int .u64 (x.st : Int)] ∧ Own w 0 A n c x.now ∧ Own w 0 A2 n2 c2 x.sf ∧ (A2 = A → n2 ≤ n) ∧ Tg tag A (11 + 2 * i) ∧ Tg tag A2 (11 + 2 * i)
  tg : tag fb = 10 + 2 * i
structure Gh where
  mf : Nat
  ms : Nat
  cv : Value
  vs : List Value
  blk : Nat → Nat
  tag : Nat → Nat
def boxP (b : Nat) : Value := .pointer (some ⟨b, 0, none⟩)
def StrBox (w : World) (tag : Nat → Nat) (b : Nat) (p : Str) : Prop := BlkIs w b 9 #[.string ⟨p.toArray⟩] ∧ tag b = 5
def PtrBox (w : World) (tag : Nat → Nat) (b fb : Nat) : Prop := BlkIs w b 66 #[fptr fb] ∧ tag b = 5
def ChAt (w : World) (tag : Nat → Nat) (blk : Nat → Nat) : Value → Chg → Prop
  | v, .mk p f => ∃ b1 b2, v = .func (.func 34) #[] #[boxP b1, boxP b2] ∧ PtrBox w tag b1 (blk f) ∧ StrBox w tag b2 p
  | v, .mv p q f => ∃ b1 b2 b3, v = .func (.func 40) #[] #[boxP b1, boxP b2, boxP b3] ∧ StrBox w tag b1 p ∧ PtrBox w tag b2 (blk f) ∧ StrBox w tag b3 q
  | v, .rm p => ∃ b1, v = .func (.func 59) #[] #[boxP b1] ∧ StrBox w tag b1 p
def ChsAt (w : World) (tag : Nat → Nat) (blk : Nat → Nat) (vs : List Value) (cs : List Chg) : Prop := ∀ (i : Nat) (c : Chg), cs[i]? = some c → ∃ v, vs[i]? = some v ∧ ChAt w tag blk v c
def treeC (s : St) (g : Gh) : Array Value := #[.int .i64 s.room, .int .i64 s.used, .int .u64 (s.clock : Int), .map (some g.mf), .map (some g.ms), g.cv, .int .i64 s.fuse, .bool s.off]
structure TreeAt (w : World) (tb : Nat) (s : St) (g : Gh) : Prop where
  top : BlkIs w tb 64 (treeC s g)
  topT : g.tag tb = 1
  mfT : g.tag g.mf = 2
  msT : g.tag g.ms = 3
  mfA : MapAt w g.mf g.blk s.files
  msA : MapAt w g.ms g.blk s.safe
  row : w.ownsRow 0 87 1 g.cv s.chs.length g.vs
  rowT : ∀ b, g.cv.ownBlock = some b → g.tag b = 4
  chs : ChsAt w g.tag g.blk g.vs s.chs
  fil : ∀ i, i < s.fil.length → FileAt w g.tag (g.blk i) i (s.at_ i)
  dom : ∀ j, g.tag j ≠ 0 → j < w.heap.size
  apart : g.mf ≠ g.ms

section
variable {w w' : World} {tag : Nat → Nat} {blk : Nat → Nat} {M : Nat → Prop}
theorem StrBox.chd {b : Nat} {p : Str} (h : StrBox w tag b p) (hc : Chd M w w') (hm : ∀ j, M j → tag j ≠ 5) : StrBox w' tag b p := ⟨h.1.chd hc (fun e => hm b e h.2), h.2⟩
theorem PtrBox.chd {b fb : Nat} (h : PtrBox w tag b fb) (hc : Chd M w w') (hm : ∀ j, M j → tag j ≠ 5) : PtrBox w' tag b fb := ⟨h.1.chd hc (fun e => hm b e h.2), h.2⟩
theorem ChAt.chd {v : Value} {c : Chg} (h : ChAt w tag blk v c) (hc : Chd M w w') (hm : ∀ j, M j → tag j ≠ 5) : ChAt w' tag blk v c := by
  cases c with
  | mk p f => obtain ⟨b1, b2, e, h1, h2⟩ := h; exact ⟨b1, b2, e, h1.chd hc hm, h2.chd hc hm⟩
  | mv p q f => obtain ⟨b1, b2, b3, e, h1, h2, h3⟩ := h; exact ⟨b1, b2, b3, e, h1.chd hc hm, h2.chd hc hm, h3.chd hc hm⟩
  | rm p => obtain ⟨b1, e, h1⟩ := h; exact ⟨b1, e, h1.chd hc hm⟩
theorem chs_chd {vs : List Value} {cs : List Chg} (h : ChsAt w tag blk vs cs) (hc : Chd M w w') (hm : ∀ j, M j → tag j ≠ 5) : ChsAt w' tag blk vs cs := fun i c hi => by
  obtain ⟨v, hv, ha⟩ := h i c hi
  exact ⟨v, hv, ha.chd hc hm⟩
theorem FileAt.chd {fb i : Nat} {x : Fil} (h : FileAt w tag fb i x) (hc : Chd M w w') (hm : ∀ j, M j → tag j ≠ 10 + 2 * i ∧ tag j ≠ 11 + 2 * i) : FileAt w' tag fb i x := by
  obtain ⟨A, n, c, A2, n2, c2, hb, h1, h2, h3, t1, t2⟩ := h.ex
  exact ⟨⟨A, n, c, A2, n2, c2, hb.chd hc (fun e => (hm fb e).1 h.tg), own_chd h1 hc (fun g hg e => (hm g e).2 (t1 g hg)), own_chd h2 hc (fun g hg e => (hm g e).2 (t2 g hg)), h3, t1, t2⟩, h.tg⟩
end

/-- The tree is what it was while other blocks turn. -/
theorem TreeAt.chd {w w' : World} {tb : Nat} {s : St} {g : Gh} {M : Nat → Prop} (h : TreeAt w tb s g) (hc : Chd M w w') (hm : ∀ j, M j → g.tag j = 0) : TreeAt w' tb s g :=
  { top := h.top.chd hc (fun e => by have := hm _ e; rw [h.topT] at this; omega)
    topT := h.topT, mfT := h.mfT, msT := h.msT
    mfA := h.mfA.chd hc (fun e => by have := hm _ e; rw [h.mfT] at this; omega)
    msA := h.msA.chd hc (fun e => by have := hm _ e; rw [h.msT] at this; omega)
    row := row_chd h.row hc (fun b hb e => by have := hm _ e; rw [h.rowT b hb] at this; omega)
    rowT := h.rowT
    chs := chs_chd h.chs hc (fun j e => by have := hm _ e; omega)
    fil := fun i hi => (h.fil i hi).chd hc (fun j e => by have := hm _ e; omega)
    dom := fun j hj => Nat.lt_of_lt_of_le (h.dom j hj) hc.size
    apart := h.apart }
theorem TreeAt.nx {w w' : World} {tb : Nat} {s : St} {g : Gh} (h : TreeAt w tb s g) (hb : Below w.heap.size w w') : TreeAt w' tb s g :=
  h.chd (M := fun _ => False) (Chd.of_below hb) (fun _ e => e.elim)
/-- What a call on the tree may turn: the tree's own blocks. -/
def Mine (g : Gh) (j : Nat) : Prop := g.tag j ≠ 0
/-- The tree's blocks are those that it had, and new ones. -/
def Gh.le (w : World) (g g' : Gh) : Prop := ∀ j, g'.tag j ≠ 0 → g.tag j ≠ 0 ∨ w.heap.size ≤ j
theorem Gh.le_refl (w : World) (g : Gh) : Gh.le w g g := fun j h => .inl h
theorem Gh.le_trans {w w' : World} {g g' g'' : Gh} (h : Gh.le w g g') (k : Gh.le w' g' g'') (hs : w.heap.size ≤ w'.heap.size) : Gh.le w g g'' := fun j hj => by
  rcases k j hj with h1 | h1
  · exact h j h1
  · exact .inr (Nat.le_trans hs h1)
end Go.Proofs.Ytodnckflobefpaa

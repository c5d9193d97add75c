/- Ranges over iterators that keep a state of their own in memory: what such an iterator promises, and what a loop over it owes. No function of the program is named here. -/
import Derived.Test.YtekcphpeaoaaaaaTbMem
import Derived.RangeFuncNested
import Derived.RangeFuncBound
import Derived.RangeFuncCalls
import Derived.RangeFuncLeaves
namespace Go.Proofs.Ytekcphpeaoaaaaa
open Go.RowKit
set_option linter.unusedVariables false

/-! ### Blocks that belong to something that is written -/
def Cel (W : World) (j : Nat) : Prop := ∃ cs t fr, W.heap[j]? = some (.cells cs t fr)
theorem Cel.lt {W : World} {j : Nat} (h : Cel W j) : j < W.heap.size := by obtain ⟨cs, t, fr, h⟩ := h; exact (Array.getElem?_eq_some_iff.1 h).1
theorem BlkIs.cel {w : World} {g : Nat} {t : TypeId} {cs : Array Value} (h : BlkIs w g t cs) : Cel w g := ⟨cs, t, (0, 0), h⟩
theorem Cel.of_eq {W W' : World} {j : Nat} (h : Cel W j) (e : W'.heap[j]? = W.heap[j]?) : Cel W' j := by obtain ⟨cs, t, fr, h⟩ := h; exact ⟨cs, t, fr, e.trans h⟩
theorem Cel.not {W : World} {j : Nat} {o : Obj} (h : Cel W j) (ho : W.heap[j]? = some o) (hc : o.isCells = false) : False := by
  obtain ⟨cs, t, fr, h⟩ := h
  rw [h] at ho
  cases ho
  cases hc
/-- Something whose blocks are those of G has turned, and its blocks are now those of G'. -/
structure Mv (G : Nat → Prop) (W : World) (G' : Nat → Prop) (W' : World) : Prop where
  chd : Chd G W W'
  old : ∀ j, G j → Cel W j
  new : ∀ j, G' j → (G j ∨ W.heap.size ≤ j) ∧ Cel W' j
section
variable {G G' G'' H : Nat → Prop} {W W' W'' : World}
theorem Mv.refl (h : ∀ j, G j → Cel W j) : Mv G W G W := ⟨Chd.refl _, h, fun j hj => ⟨.inl hj, h j hj⟩⟩
theorem Mv.trans (h : Mv G W G' W') (k : Mv G' W' G'' W'') : Mv G W G'' W'' :=
  ⟨h.chd.then_ k.chd fun j hj hm => by
      rcases (h.new j hm).1 with e | e
      · exact e
      · omega,
    h.old, fun j hj => ⟨by
      rcases (k.new j hj).1 with e | e
      · exact (h.new j e).1
      · exact .inr (Nat.le_trans h.chd.size e), (k.new j hj).2⟩⟩
theorem Mv.of_nx (h : Nx W W') (hc : ∀ j, G j → Cel W j) : Mv G W G W' :=
  ⟨h.chd, hc, fun j hj => ⟨.inl hj, (hc j hj).of_eq (h.block j (hc j hj).lt)⟩⟩
/-- What belongs to something else is as it was. -/
theorem Mv.other (h : Mv G W G' W') (hd : ∀ j, G j → ¬ H j) {j : Nat} (hj : H j) (hc : Cel W j) : W'.heap[j]? = W.heap[j]? := h.chd.block j hc.lt (fun e => hd j e hj)
theorem Mv.apart (h : Mv G W G' W') (hd : ∀ j, G j → ¬ H j) (hc : ∀ j, H j → Cel W j) : ∀ j, G' j → ¬ H j := fun j hj hh => by
  rcases (h.new j hj).1 with e | e
  · exact hd j e hh
  · have := (hc j hh).lt; omega
theorem Mv.cel (h : Mv G W G' W') (hd : ∀ j, G j → ¬ H j) (hc : ∀ j, H j → Cel W j) : ∀ j, H j → Cel W' j := fun j hj => (hc j hj).of_eq (h.other hd hj (hc j hj))
/-- What is no cells is as it was. -/
theorem Mv.keeps (h : Mv G W G' W') {j : Nat} {o : Obj} (ho : W.heap[j]? = some o) (hc : o.isCells = false) : W'.heap[j]? = some o :=
  (h.chd.block j (Array.getElem?_eq_some_iff.1 ho).1 (fun e => (h.old j e).not ho hc)).trans ho
theorem Mv.from (h : Mv G W G' W') (B : Nat) : KeepsFrom B W W' := ⟨h.chd.size, fun k o _ hk ho => h.keeps hk ho⟩
theorem KeepsFrom.nx (h : Nx W W') (B : Nat) : KeepsFrom B W W' := ⟨h.size, fun k o _ hk _ => (h.block k (Array.getElem?_eq_some_iff.1 hk).1).trans hk⟩
end
/-- What the loops' own book-keeping turns: new blocks, and such blocks from B on as are no cells. -/
def Bk (B : Nat) (W W' : World) : Prop := Chd (fun j => B ≤ j ∧ ¬ Cel W j) W W'
theorem Bk.put {B : Nat} {W : World} {l : Nat} {o : Obj} (o' : Obj) (h : W.heap[l]? = some o) (ho : o.isCells = false) (hB : B ≤ l) : Bk B W (W.putObj l o') :=
  ⟨rfl, rfl, rfl, (grownBy_putObj' W l o').size, fun j hj hm => World.putObj_heap_other (fun e => hm ⟨by omega, fun c => c.not (by rw [e]; exact h) ho⟩)⟩
theorem Bk.nx {B : Nat} {W W' : World} (h : Nx W W') : Bk B W W' := h.chd
theorem Bk.cel {B : Nat} {W W' : World} (h : Bk B W W') {j : Nat} (hc : Cel W j) : Cel W' j := hc.of_eq (h.block j hc.lt (fun e => e.2 hc))
theorem Bk.blk {B : Nat} {W W' : World} (h : Bk B W W') {j : Nat} (hc : Cel W j) : W'.heap[j]? = W.heap[j]? := h.block j hc.lt (fun e => e.2 hc)
theorem Bk.below {B n : Nat} {W W' : World} (h : Bk B W W') (hn : n ≤ B) (hw : n ≤ W.heap.size) : Below n W W' := ⟨h.os, h.tape, h.output, h.size, fun j hj => h.block j (by omega) (fun e => by have := e.1; omega)⟩
/-- What a round that goes on leaves to the iterator: its blocks, and those of X. -/
def Kp (X G : Nat → Prop) (W W' : World) : Prop := Chd (fun j => ¬ (G j ∨ X j)) W W'
theorem Kp.own {X G : Nat → Prop} {W W' : World} (h : Kp X G W W') {j : Nat} (hj : G j) (hc : Cel W j) : W'.heap[j]? = W.heap[j]? := h.block j hc.lt (fun e => e (.inl hj))
theorem Kp.fix {X G : Nat → Prop} {W W' : World} (h : Kp X G W W') {j : Nat} (hj : X j) (hl : j < W.heap.size) : W'.heap[j]? = W.heap[j]? := h.block j hl (fun e => e (.inr hj))

/-! ### An iterator, and a loop over it -/
def SeqX {β : Type} (F : Fence) (n : Nat) (P : Program) (g : Nat) (lb : Array Value) (enc : β → Array Value) (Ok : Nat → β → Prop) (X : Nat → Prop) (N : Nat) (Dn : (Nat → Prop) → World → Prop) (G0 : Nat → Prop) (w : World) : Prop :=
  ∀ (l : Nat) (J Jx : Nat → (Nat → Prop) → World → Prop) (W : World), Nx w W →
    (∀ i G A G' B, J i G A → Mv G A G' B → J i G' B) →
    (∀ i G A G' B, Jx i G A → Mv G A G' B → Jx i G' B) →
    (∀ i b G A, J i G A → i < N → Ok i b → (∀ j, G j → Cel A j) → YieldAt F (n - 1) P l (enc b) A fun e B =>
      (e = .returned (.bool true) ∧ J (i + 1) G B ∧ Kp X G A B) ∨ (e = .returned (.bool false) ∧ Jx (i + 1) G B)) →
    J 0 G0 W →
    CallsIn F n P g (#[.func (.yield l) #[] #[]] ++ lb) W fun e B => (∃ v, e = .returned v) ∧ ((∃ G, J N G B ∧ Dn G B) ∨ (∃ i G, Jx i G B))
theorem SeqX.inRound {β : Type} {F : Fence} {n : Nat} {P : Program} {g : Nat} {lb : Array Value} {enc : β → Array Value} {Ok : Nat → β → Prop} {X : Nat → Prop} {N : Nat} {Dn : (Nat → Prop) → World → Prop} {G0 : Nat → Prop} {w : World} (l : Nat)
    (h : SeqX F n P g lb enc Ok X N Dn G0 w) : SeqX (F.inRound l) n P g lb enc Ok X N Dn G0 w := h

/-- How the body of a round may be left. -/
def postX (B : Nat) (X G : Nat → Prop) (I : Nat → (Nat → Prop) → World → Prop) (Ix : Code → Nat → (Nat → Prop) → World → Prop) (i : Nat) (W : World) : Exit → Act → World → Prop
  | .normal, _, W' => KeepsFrom B W W' ∧ Kp X G W W' ∧ I (i + 1) G W'
  | .ret, _, W' => KeepsFrom B W W' ∧ Ix .ret (i + 1) G W'
  | .exit id, _, W' => KeepsFrom B W W' ∧ Ix (.exit id) (i + 1) G W'
  | .goto t, _, W' => KeepsFrom B W W' ∧ Ix (.goto t) (i + 1) G W'
  | .panic _, _, _ => False
  | .outgrown, _, _ => False

section
variable {F : Fence} {n : Nat} {P : Program}
/-- One round: the record is ready, turns busy, the body is walked, and the record is ready again or done. -/
theorem round_x {β : Type} {m : Nat} {B lr : Nat} {rec : LoopState → Option Code → Loop} {enc : β → Array Value} {X : Nat → Prop} {I : Nat → (Nat → Prop) → World → Prop} {Ix : Code → Nat → (Nat → Prop) → World → Prop} {assign body : Code} {a₁ : β → Act} {fn : FuncId} {tmps : Array Value} {ps : Array Tmp} {D : Nat} {extra : World → Prop}
    (hrec : rec = fun st pe => { state := st, pending := pe, fn, tmps := tmps, params := ps, assign, body, defers := D }) (hfn : F.fn fn) (hps : ∀ x, (enc x).size = ps.size) (hX : ∀ j, X j → j < B) (hlr : B ≤ lr)
    (hIb : ∀ i G A C, I i G A → Bk B A C → I i G C) (hIxb : ∀ c i G A C, Ix c i G A → Bk B A C → Ix c i G C)
    (hex : ∀ A o', extra A → A.heap[lr]? = some o' → o'.isCells = false → ∀ o, extra (A.putObj lr o)) (hexk : ∀ A C, extra A → KeepsFrom B A C → extra C)
    (hassign : ∀ (l : Nat) (x : β) (W : World) (K : Act → World → Prop), K (a₁ x) W →
      assign.wpIn (F.inRound l) m P (Exit.then K (fun _ _ _ => False)) { tmps := (ps.zip (enc x)).foldl (fun t (p, v) => t.setIfInBounds p v) tmps, defers := [] } W)
    (i : Nat) (x : β) (G : Nat → Prop) (W : World) (hG : ∀ j, G j → Cel W j) (hi : I i G W) (he : extra W) (hl : W.heap[lr]? = some (.loop (rec .ready none)))
    (hbody : ∀ W', (∃ r, W'.heap[lr]? = some (.loop r)) → I i G W' → (∀ j, G j → Cel W' j) → body.wpIn (F.inRound lr) m P (postX B X G I Ix i W') (a₁ x) W') :
    YieldAt F m P lr (enc x) W fun e W' =>
      (e = .returned (.bool true) ∧ (I (i + 1) G W' ∧ extra W' ∧ W'.heap[lr]? = some (.loop (rec .ready none))) ∧ Kp X G W W') ∨
      (e = .returned (.bool false) ∧ ∃ c, Ix c (i + 1) G W' ∧ extra W' ∧ W'.heap[lr]? = some (.loop (rec .done (some c)))) := by
  have hlt : lr < W.heap.size := (Array.getElem?_eq_some_iff.1 hl).1
  have hy := run_yield (P := P) (args := enc x) hl (by rw [hrec]; exact hps x)
  rw [hrec] at hy
  refine ⟨fn, _, assign, body, hy, roundIn_of_wpIn hfn (hassign _ x W _ ⟨_, run_beginRound hl (by rw [hrec]), ?_⟩)⟩
  have nG : ∀ {A : World} {r : Loop}, (∀ j, G j → Cel A j) → A.heap[lr]? = some (.loop r) → ¬ (G lr ∨ X lr) := fun {A r} hc h e => by
    rcases e with e | e
    · exact (hc lr e).not h rfl
    · have := hX lr e; omega
  obtain ⟨W2, hW2⟩ : ∃ W2, W.putObj lr (.loop { rec .ready none with state := .busy }) = W2 := ⟨_, rfl⟩
  rw [hW2]
  have hl2 : W2.heap[lr]? = some (.loop { rec .ready none with state := .busy }) := by rw [← hW2]; exact World.putObj_heap_same hlt
  have b2 : Bk B W W2 := by rw [← hW2]; exact Bk.put _ hl rfl hlr
  have g2 : ∀ j, G j → Cel W2 j := fun j hj => b2.cel (hG j hj)
  have k2 : Kp X G W W2 := by
    rw [← hW2]
    exact ⟨rfl, rfl, rfl, (grownBy_putObj' W lr _).size, fun j _ hm => World.putObj_heap_other (fun e => hm (by rw [e]; exact nG hG hl))⟩
  have e2 : extra W2 := by rw [← hW2]; exact hex W _ he hl rfl _
  refine wpIn_mono (hbody W2 ⟨_, hl2⟩ (hIb _ _ _ _ hi b2) g2) ?_
  have fin : ∀ (jump : Option Code) (W3 : World), KeepsFrom B W2 W3 →
      (Instr.endRound lr jump).run P W3 = .ok (.bool jump.isNone) (W3.putObj lr (.loop (rec (if jump.isNone then .ready else .done) jump))) ∧
      W3.heap[lr]? = some (.loop { rec .ready none with state := .busy }) ∧
      (W3.putObj lr (.loop (rec (if jump.isNone then .ready else .done) jump))).heap[lr]? = some (.loop (rec (if jump.isNone then .ready else .done) jump)) ∧
      extra (W3.putObj lr (.loop (rec (if jump.isNone then .ready else .done) jump))) := fun jump W3 hk3 => by
    have hl3 := hk3.same _ _ hlr hl2 rfl
    have hr := run_endRound (P := P) jump hl3
    rw [hrec] at hr ⊢
    exact ⟨hr, by rw [hrec] at hl3; exact hl3, World.putObj_heap_same (Array.getElem?_eq_some_iff.1 hl3).1, hex _ _ (hexk _ _ e2 hk3) hl3 rfl _⟩
  rintro e a3 W3 hp
  cases e with
  | normal =>
    obtain ⟨hk3, hkp3, hi3⟩ := hp
    obtain ⟨hr, hl3, hl4, he4⟩ := fin none W3 hk3
    have g3 : ∀ j, G j → Cel W3 j := fun j hj => (g2 j hj).of_eq (hkp3.own hj (g2 j hj))
    refine ⟨_, _, hr, .inl ⟨rfl, ⟨hIb _ _ _ _ hi3 (Bk.put _ hl3 rfl hlr), he4, hl4⟩, ?_⟩⟩
    refine (Chd.trans k2 hkp3).trans ⟨rfl, rfl, rfl, (grownBy_putObj' W3 lr _).size, fun j _ hm => World.putObj_heap_other (fun e => hm (by rw [e]; exact nG g3 hl3))⟩
  | ret =>
    obtain ⟨hk3, hi3⟩ := hp
    obtain ⟨hr, hl3, hl4, he4⟩ := fin (some .ret) W3 hk3
    exact ⟨_, _, hr, .inr ⟨rfl, .ret, hIxb _ _ _ _ _ hi3 (Bk.put _ hl3 rfl hlr), he4, hl4⟩⟩
  | exit id =>
    obtain ⟨hk3, hi3⟩ := hp
    obtain ⟨hr, hl3, hl4, he4⟩ := fin (some (.exit id)) W3 hk3
    exact ⟨_, _, hr, .inr ⟨rfl, .exit id, hIxb _ _ _ _ _ hi3 (Bk.put _ hl3 rfl hlr), he4, hl4⟩⟩
  | goto t =>
    obtain ⟨hk3, hi3⟩ := hp
    obtain ⟨hr, hl3, hl4, he4⟩ := fin (some (.goto t)) W3 hk3
    exact ⟨_, _, hr, .inr ⟨rfl, .goto t, hIxb _ _ _ _ _ hi3 (Bk.put _ hl3 rfl hlr), he4, hl4⟩⟩
  | panic ch => exact hp.elim
  | outgrown => exact hp.elim

/-- A loop over such an iterator, in a function's own code. -/
theorem range_x {β : Type} {g : Operand} {ps : Array Tmp} {assign body : Code} {Q : Exit → Act → World → Prop} {a : Act} {w : World}
    (hro : F.round = none) (h1 : 1 ≤ n) {gf : Nat} {lb : Array Value} (hg : a.eval g = .func (.func gf) #[] lb) (hFg : F.fn gf) (eg : ∀ args w, (callFunc gf args).run P w = .ok (.enter gf args) w)
    {enc : β → Array Value} {Ok : Nat → β → Prop} {X : Nat → Prop} {N : Nat} {Dn : (Nat → Prop) → World → Prop} {G0 : Nat → Prop} (hseq : SeqX F (n - 1) P gf lb enc Ok X N Dn G0 w) (hps : ∀ x, (enc x).size = ps.size) (hX : ∀ j, X j → j < w.heap.size)
    (I : Nat → (Nat → Prop) → World → Prop) (Ix : Code → Nat → (Nat → Prop) → World → Prop)
    (hIs : ∀ i G A G' C, I i G A → Mv G A G' C → I i G' C) (hIxs : ∀ c i G A G' C, Ix c i G A → Mv G A G' C → Ix c i G' C)
    (hIb : ∀ i G A C, I i G A → Bk w.heap.size A C → I i G C) (hIxb : ∀ c i G A C, Ix c i G A → Bk w.heap.size A C → Ix c i G C) (hDb : ∀ G A C, Dn G A → Bk w.heap.size A C → Dn G C)
    (h0 : I 0 G0 w) (a₁ : β → Act)
    (hassign : ∀ (l : Nat) (x : β) (W : World) (K : Act → World → Prop), K (a₁ x) W →
      assign.wpIn (F.inRound l) (n - 1 - 1) P (Exit.then K (fun _ _ _ => False)) { tmps := (ps.zip (enc x)).foldl (fun t (p, v) => t.setIfInBounds p v) a.tmps, defers := [] } W)
    (hbody : ∀ (l i : Nat) (x : β) (G : Nat → Prop) (W : World), w.heap.size ≤ l → (∃ r, W.heap[l]? = some (.loop r)) → I i G W → (∀ j, G j → Cel W j) → i < N → Ok i x → body.wpIn (F.inRound l) (n - 1 - 1) P (postX w.heap.size X G I Ix i W) (a₁ x) W)
    (hdone : ∀ (D : Nat) (G : Nat → Prop) (W : World), w.heap.size ≤ D → I N G W → Dn G W → W.heap[D]? = some (.deferred (some [])) → Q .normal { a with defers := { target := .collected D, args := #[] } :: a.defers } W)
    (hstop : ∀ (D : Nat) (c : Code) (i : Nat) (G : Nat → Prop) (W : World), w.heap.size ≤ D → Ix c i G W → W.heap[D]? = some (.deferred (some [])) → c.wpIn F n P Q { a with defers := { target := .collected D, args := #[] } :: a.defers } W) :
    (Code.rangeFunc g ps assign body).wpIn F n P Q a w := by
  refine wpIn_rangeFunc ?_
  intro fn hfn
  rw [hro]
  obtain ⟨rec, hrec⟩ : ∃ rec : LoopState → Option Code → Loop, rec = fun st pe => { state := st, pending := pe, fn, tmps := a.tmps, params := ps, assign, body, defers := w.heap.size } := ⟨_, rfl⟩
  obtain ⟨W1, hW1⟩ : ∃ W1, (w.alloc (.deferred (some []))).alloc (.loop (rec .ready none)) = W1 := ⟨_, rfl⟩
  have hL1 : W1.heap[w.heap.size + 1]? = some (.loop (rec .ready none)) := by
    rw [← hW1]
    have := World.alloc_heap_new (w.alloc (.deferred (some []))) (.loop (rec .ready none))
    rwa [World.size_alloc] at this
  have hK1 : W1.heap[w.heap.size]? = some (.deferred (some [])) := by
    rw [← hW1]
    exact (Below.heap_alloc _ _ _ (by simp)).trans (World.alloc_heap_new w _)
  have n1 : Nx w W1 := by rw [← hW1]; exact ((Nx.refl w).alloc _).alloc _
  refine ⟨w.heap.size + 1, [{ target := .collected w.heap.size, args := #[] }], W1, { target := .fn (.func gf) lb, args := #[.func (.yield (w.heap.size + 1)) #[] #[]] }, W1, gf,
    #[.func (.yield (w.heap.size + 1)) #[] #[]] ++ lb, W1, ?_, ?_, ?_, ?_, fun _ => h1, ?_⟩
  · rw [← hW1, hrec]; exact run_enterLoop_outer _ _ _ _ _
  · simp only [resolve, hg]
    simp [go_sem]
  · intro f' hf'
    simp [Target.leads] at hf'
    subst hf'
    exact hFg
  · simp [invoke, go_sem, eg]
  · refine (hseq (w.heap.size + 1)
      (fun i G W => I i G W ∧ W.heap[w.heap.size]? = some (.deferred (some [])) ∧ W.heap[w.heap.size + 1]? = some (.loop (rec .ready none)))
      (fun i G W => ∃ c, Ix c i G W ∧ W.heap[w.heap.size]? = some (.deferred (some [])) ∧ W.heap[w.heap.size + 1]? = some (.loop (rec .done (some c))))
      W1 n1
      (fun i G A G' C hs hm => ⟨hIs _ _ _ _ _ hs.1 hm, hm.keeps hs.2.1 rfl, hm.keeps hs.2.2 rfl⟩)
      (fun i G A G' C hs hm => by
        obtain ⟨c, hc, hk, hl⟩ := hs
        exact ⟨c, hIxs _ _ _ _ _ _ hc hm, hm.keeps hk rfl, hm.keeps hl rfl⟩)
      ?_ ⟨hIb _ _ _ _ h0 (Bk.nx n1), hK1, hL1⟩).mono ?_
    · rintro i x G W ⟨hi, hk, hl⟩ hlt hok hG
      exact round_x (extra := fun W => W.heap[w.heap.size]? = some (.deferred (some []))) hrec hfn hps hX (by omega) hIb hIxb
        (fun A o' h _ _ o => (World.putObj_heap_other (by omega)).trans h) (fun A C h hk => hk.same _ _ (Nat.le_refl _) h rfl) hassign i x G W hG hi hk hl
        (fun W' hr hi' hG' => hbody _ i x G W' (by omega) hr hi' hG' hlt hok)
    · rintro e W2 ⟨⟨v, rfl⟩, (⟨G, ⟨hi, hk, hl⟩, hd⟩ | ⟨i, G, c, hi, hk, hl⟩)⟩
      · exact ⟨none, _, by have := run_endLoop (P := P) hl (by rw [hrec]; simp); rw [hrec] at this; exact this,
          hdone _ G _ (Nat.le_refl _) (hIb _ _ _ _ hi (Bk.put _ hl rfl (by omega))) (hDb _ _ _ hd (Bk.put _ hl rfl (by omega))) ((World.putObj_heap_other (by omega)).trans hk)⟩
      · exact ⟨some c, _, by have := run_endLoop (P := P) hl (by rw [hrec]; simp); rw [hrec] at this; exact this,
          hstop _ c i G _ (Nat.le_refl _) (hIxb _ _ _ _ _ hi (Bk.put _ hl rfl (by omega))) ((World.putObj_heap_other (by omega)).trans hk)⟩

/-- A loop over such an iterator, in the body of a loop l₀ over another one. -/
theorem range_in {β : Type} {g : Operand} {ps : Array Tmp} {assign body : Code} {Q : Exit → Act → World → Prop} {a : Act} {w : World} {l₀ : Nat} {r₀ : Loop}
    (hro : F.round = some l₀) (hl₀ : w.heap[l₀]? = some (.loop r₀)) (h1 : 1 ≤ n) {gf : Nat} {lb : Array Value} (hg : a.eval g = .func (.func gf) #[] lb) (hFg : F.fn gf) (eg : ∀ args w, (callFunc gf args).run P w = .ok (.enter gf args) w)
    {enc : β → Array Value} {Ok : Nat → β → Prop} {X : Nat → Prop} {N : Nat} {Dn : (Nat → Prop) → World → Prop} {G0 : Nat → Prop} (hseq : SeqX F (n - 1) P gf lb enc Ok X N Dn G0 w) (hps : ∀ x, (enc x).size = ps.size) (hX : ∀ j, X j → j < w.heap.size)
    (I : Nat → (Nat → Prop) → World → Prop) (Ix : Code → Nat → (Nat → Prop) → World → Prop)
    (hIs : ∀ i G A G' C, I i G A → Mv G A G' C → I i G' C) (hIxs : ∀ c i G A G' C, Ix c i G A → Mv G A G' C → Ix c i G' C)
    (hIb : ∀ i G A C, I i G A → Bk w.heap.size A C → I i G C) (hIxb : ∀ c i G A C, Ix c i G A → Bk w.heap.size A C → Ix c i G C) (hDb : ∀ G A C, Dn G A → Bk w.heap.size A C → Dn G C)
    (h0 : I 0 G0 w) (a₁ : β → Act)
    (hassign : ∀ (l : Nat) (x : β) (W : World) (K : Act → World → Prop), K (a₁ x) W →
      assign.wpIn (F.inRound l) (n - 1 - 1) P (Exit.then K (fun _ _ _ => False)) { tmps := (ps.zip (enc x)).foldl (fun t (p, v) => t.setIfInBounds p v) a.tmps, defers := [] } W)
    (hbody : ∀ (l i : Nat) (x : β) (G : Nat → Prop) (W : World), w.heap.size ≤ l → (∃ r, W.heap[l]? = some (.loop r)) → I i G W → (∀ j, G j → Cel W j) → i < N → Ok i x → body.wpIn (F.inRound l) (n - 1 - 1) P (postX w.heap.size X G I Ix i W) (a₁ x) W)
    (hdone : ∀ (G : Nat → Prop) (W : World), I N G W → Dn G W → Q .normal a W)
    (hstop : ∀ (c : Code) (i : Nat) (G : Nat → Prop) (W : World), Ix c i G W → c.wpIn F n P Q a W) :
    (Code.rangeFunc g ps assign body).wpIn F n P Q a w := by
  refine wpIn_rangeFunc ?_
  intro fn hfn
  rw [hro]
  obtain ⟨rec, hrec⟩ : ∃ rec : LoopState → Option Code → Loop, rec = fun st pe => { state := st, pending := pe, fn, tmps := a.tmps, params := ps, assign, body, defers := r₀.defers } := ⟨_, rfl⟩
  obtain ⟨W1, hW1⟩ : ∃ W1, w.alloc (.loop (rec .ready none)) = W1 := ⟨_, rfl⟩
  have hL1 : W1.heap[w.heap.size]? = some (.loop (rec .ready none)) := by
    rw [← hW1]
    exact World.alloc_heap_new w _
  have n1 : Nx w W1 := by rw [← hW1]; exact (Nx.refl w).alloc _
  refine ⟨w.heap.size, [], W1, { target := .fn (.func gf) lb, args := #[.func (.yield w.heap.size) #[] #[]] }, W1, gf,
    #[.func (.yield w.heap.size) #[] #[]] ++ lb, W1, ?_, ?_, ?_, ?_, fun _ => h1, ?_⟩
  · rw [← hW1, hrec]; exact run_enterLoop_inner hl₀ _ _ _ _ _
  · simp only [resolve, hg]
    simp [go_sem]
  · intro f' hf'
    simp [Target.leads] at hf'
    subst hf'
    exact hFg
  · simp [invoke, go_sem, eg]
  · refine (hseq w.heap.size
      (fun i G W => I i G W ∧ True ∧ W.heap[w.heap.size]? = some (.loop (rec .ready none)))
      (fun i G W => ∃ c, Ix c i G W ∧ True ∧ W.heap[w.heap.size]? = some (.loop (rec .done (some c))))
      W1 n1
      (fun i G A G' C hs hm => ⟨hIs _ _ _ _ _ hs.1 hm, trivial, hm.keeps hs.2.2 rfl⟩)
      (fun i G A G' C hs hm => by
        obtain ⟨c, hc, _, hl⟩ := hs
        exact ⟨c, hIxs _ _ _ _ _ _ hc hm, trivial, hm.keeps hl rfl⟩)
      ?_ ⟨hIb _ _ _ _ h0 (Bk.nx n1), trivial, hL1⟩).mono ?_
    · rintro i x G W ⟨hi, hk, hl⟩ hlt hok hG
      exact round_x (extra := fun _ => True) hrec hfn hps hX (Nat.le_refl _) hIb hIxb
        (fun A o' h _ _ o => trivial) (fun A C h hk => trivial) hassign i x G W hG hi trivial hl
        (fun W' hr hi' hG' => hbody _ i x G W' (Nat.le_refl _) hr hi' hG' hlt hok)
    · rintro e W2 ⟨⟨v, rfl⟩, (⟨G, ⟨hi, _, hl⟩, hd⟩ | ⟨i, G, c, hi, _, hl⟩)⟩
      · exact ⟨none, _, by have := run_endLoop (P := P) hl (by rw [hrec]; simp); rw [hrec] at this; exact this,
          hdone G _ (hIb _ _ _ _ hi (Bk.put _ hl rfl (Nat.le_refl _))) (hDb _ _ _ hd (Bk.put _ hl rfl (Nat.le_refl _)))⟩
      · exact ⟨some c, _, by have := run_endLoop (P := P) hl (by rw [hrec]; simp); rw [hrec] at this; exact this,
          hstop c i G _ (hIxb _ _ _ _ _ hi (Bk.put _ hl rfl (Nat.le_refl _)))⟩
end
end Go.Proofs.Ytekcphpeaoaaaaa

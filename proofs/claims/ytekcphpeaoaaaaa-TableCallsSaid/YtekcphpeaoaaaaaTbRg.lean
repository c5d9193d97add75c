/- Helpers for regions that draw their order: what calls, loads and reads of lists of pairs give. -/
import Derived.Test.YtekcphpeaoaaaaaTbFl
import Derived.Test.YtekcphpeaoaaaaaAll1
namespace Go.Proofs.Ytekcphpeaoaaaaa
open Go.RowKit Go.Shelf
set_option linter.unusedVariables false

theorem eval_const (a : Act) (v : Value) : a.eval (.const v) = v := rfl
theorem run_enter {P : Program} {a : Act} {o : Oper} {f : FuncId} {g : Operand} {xs : Array Operand} {ts : Array TypeId} {vs : Array Value} {W : World} (ho : o.op = .call { callee := .value g, args := xs, argTypes := ts }) (hv : xs.map a.eval = vs) (hg : a.eval g = .func (.func f) #[] #[])
    (he : ∀ args W, (callFunc f args).run P W = .ok (.enter f args) W) : (execOp a.eval o).run P W = .ok (.enter f vs) W := by
  unfold execOp
  simp only [ho, resolve, hg, hv]
  simp [invoke, go_sem, he]
theorem run_len {P : Program} {a : Act} {o : Oper} {x : Operand} {t e : TypeId} {A : Option Addr} {n c : Nat} {W : World} (ho : o.op = .call { callee := .builtin .len, args := #[x], argTypes := #[t] }) (hv : a.eval x = .slice A n c) (ht : P.underlying t = some (.slice e)) :
    (execOp a.eval o).run P W = .ok (.value (.int .i64 (n : Int))) W := by
  unfold execOp
  simp only [ho, resolve, invoke, builtin, List.map_toArray, List.map_cons, List.map_nil, hv]
  simp [go_sem, Builtin.len_, run_underlying ht, Builtin.lenOf]
theorem Rd.none {w : World} {v : Value} (h : Rd w v []) : ∃ A c, v = .slice A 0 c := by
  rcases h with ⟨A, c, e, _⟩ | ⟨b, o, c, e, _⟩
  · exact ⟨A, c, e⟩
  · exact ⟨_, c, e⟩
theorem Rd.len {w : World} {v : Value} {l : List Pr} (h : Rd w v l) : ∃ A c, v = .slice A l.length c := by
  rcases h with ⟨A, c, e, e2⟩ | ⟨b, o, c, e, _⟩
  · subst e2; exact ⟨A, c, e⟩
  · exact ⟨_, c, e⟩
theorem Tb.drw {w : World} {T' : Value} {xs : List KV} (h : Tb w T' xs) : Tb w.drew T' xs := h.nx (Nx.refl w).drew
theorem BlkIs.at0 {w W : World} {g : Nat} {t : TypeId} {v : Value} (h : BlkIs w g t #[v]) (k : Nx w W) : W.cell? ⟨g, 0, none⟩ = some v := by rw [(h.nx k).cell]; rfl
theorem cell_nx {w W : World} {a : Addr} {v : Value} (h : w.cell? a = some v) (k : Nx w W) : W.cell? a = some v := by
  rw [World.cell?_of_block (k.block a.block (World.block_lt_of_cell? w a h))]; exact h
theorem Row.nx {w w' : World} {B : Nat} {v : Value} {l : List Pr} (h : Row w B v l) (k : Nx w w') : Row w' B v l := row_of_blk h fun j hj => k.block j (by
  obtain ⟨_, cs, hc⟩ := own_row_blk' h hj
  exact hc.lt)
theorem Nx.grown {W0 W W' : World} {v : Value} {l : List Pr} (h : Nx W0 W) (hr : Row W W0.heap.size v l) (hg : W.grownBy W' v.ownBlock) : Nx W0 W' :=
  Below.trans h ((Chd.of_grown hg).below h.size fun k hk e => by have := (own_row_blk' hr e).1; omega)
theorem run_appW {a : Act} {W : World} {o : Oper} (s x : Operand) (ho : o.op = .call { callee := .builtin .append, args := #[s, x], argTypes := #[33, 33] }) (B : Nat) (v xv : Value) (l m : List Pr) (hs : a.eval s = v) (hx : a.eval x = xv) (hv : Row W B v l) (hr : RdC W xv m) (hn : l.length + m.length ≤ 1000000000) (hB : B ≤ W.heap.size) :
    ∃ v' w', (execOp a.eval o).run Try.prog W = .ok (.value v') w' ∧ Row w' B v' (l ++ m) ∧ W.grownBy w' v.ownBlock := by
  obtain ⟨v', w', h1, h2, h3⟩ := run_app W B v xv l m hv hr hn hB o.type
  refine ⟨v', w', ?_, h2, h3⟩
  unfold execOp
  simp only [ho, resolve, invoke, builtin, Sem.run_bind, Sem.run_pure, Result.andThen_ok, List.map_toArray, List.map_cons, List.map_nil, hs, hx, h1]
def RdP (w : World) (v : Value) (l : List Pr) : Prop := RdC w v l ∧ Pln v
theorem RdP.nx {w w' : World} {v : Value} {l : List Pr} (h : RdP w v l) (k : Nx w w') : RdP w' v l := ⟨h.1.nx k, h.2⟩
theorem Row.rdp {w : World} {B : Nat} {v : Value} {l : List Pr} (h : Row w B v l) : RdP w v l := ⟨h.rdc, h.pln⟩
/-- Two boxes, B and C, which are stored last, by the operations i and j. -/
structure I2 (i j : Nat) (W0 : World) (B C : Nat) (tB tC : TypeId) (vB vC : Value) (qB qC : Value → World → Prop) (l : Array Bool) (W : World) : Prop where
  chd : Chd (fun k => k = B ∨ k = C) W0 W
  nx : l.getD i false = false → Nx W0 W
  b : l.getD i false = true → ∃ u, BlkIs W B tB #[u] ∧ qB (.agg #[u]) W
  c0 : l.getD j false = false → BlkIs W C tC #[vC]
  c : l.getD j false = true → ∃ u, BlkIs W C tC #[u] ∧ qC (.agg #[u]) W
section
variable {i j : Nat} {W0 : World} {B C : Nat} {tB tC : TypeId} {vB vC : Value} {qB qC : Value → World → Prop} {l : Array Bool} {W : World}
theorem I2.start (hb : BlkIs W0 B tB #[vB]) (hc : BlkIs W0 C tC #[vC]) {n : Nat} : I2 i j W0 B C tB tC vB vC qB qC (Array.replicate n false) W0.drew :=
  ⟨(Nx.refl W0).drew.chd, fun _ => (Nx.refl W0).drew, (fun h => by rw [replicate_off] at h; cases h), fun _ => hc.drew, (fun h => by rw [replicate_off] at h; cases h)⟩
theorem I2.step (h : I2 i j W0 B C tB tC vB vC qB qC l W) (sB : ∀ {v W W'}, qB v W → Nx W W' → qB v W') (sC : ∀ {v W W'}, qC v W → Nx W W' → qC v W') {W' : World} (hn : Nx W W') {k : Nat} (hk : k ≠ i ∧ k ≠ j) : I2 i j W0 B C tB tC vB vC qB qC (l.setIfInBounds k true) W' := by
  obtain ⟨h1, h2⟩ := hk
  refine ⟨h.chd.trans hn.chd, fun e => (h.nx (getD_set_was e)).trans hn, fun e => ?_, fun e => (h.c0 (getD_set_was e)).nx hn, fun e => ?_⟩
  · rw [getD_set_other h1] at e
    obtain ⟨u, a, b⟩ := h.b e
    exact ⟨u, a.nx hn, sB b hn⟩
  · rw [getD_set_other h2] at e
    obtain ⟨u, a, b⟩ := h.c e
    exact ⟨u, a.nx hn, sC b hn⟩
theorem I2.putB (h : I2 i j W0 B C tB tC vB vC qB qC l W) (hb : BlkIs W0 B tB #[vB]) (hne : B ≠ C) (hij : i ≠ j) (hi : i < l.size) (h1 : l.getD i false = false) (h2 : l.getD j false = false) {u : Value} (hq : qB (.agg #[u]) (W.setCell ⟨B, 0, none⟩ u)) :
    I2 i j W0 B C tB tC vB vC qB qC (l.setIfInBounds i true) (W.setCell ⟨B, 0, none⟩ u) := by
  refine ⟨h.chd.trans ((Chd.set W B 0 u).mono fun _ _ e => .inl e), fun e => ?_, fun _ => ⟨u, (hb.nx (h.nx h1)).set 0 u, hq⟩, fun _ => (h.c0 h2).chd (Chd.set W B 0 u) (fun e => hne e.symm), fun e => ?_⟩
  · rw [getD_set_self hi] at e; cases e
  · rw [getD_set_other hij, h2] at e; cases e
theorem I2.putC (h : I2 i j W0 B C tB tC vB vC qB qC l W) (hne : B ≠ C) (hij : j ≠ i) (hj : j < l.size) (h1 : l.getD i false = true) (h2 : l.getD j false = false) {u : Value} (sB : ∀ v, qB v W → qB v (W.setCell ⟨C, 0, none⟩ u)) (hq : qC (.agg #[u]) (W.setCell ⟨C, 0, none⟩ u)) :
    I2 i j W0 B C tB tC vB vC qB qC (l.setIfInBounds j true) (W.setCell ⟨C, 0, none⟩ u) := by
  refine ⟨h.chd.trans ((Chd.set W C 0 u).mono fun _ _ e => .inr e), fun e => ?_, fun _ => ?_, fun e => ?_, fun _ => ⟨u, (h.c0 h2).set 0 u, hq⟩⟩
  · rw [getD_set_other hij, h1] at e; cases e
  · obtain ⟨v, a, b⟩ := h.b h1
    exact ⟨v, a.chd (Chd.set W C 0 u) hne, sB _ b⟩
  · rw [getD_set_self hj] at e; cases e
end
end Go.Proofs.Ytekcphpeaoaaaaa

/- Rows of values of any type in memory: what is read, what is the call's own, and appends. No function of the program is named here. -/
import Derived.Test.YtlmfjalkgapcgaaDoorGnW
namespace Go.Proofs.YtlmfjalkgapcgaaDoor
open Go.RowKit
set_option linter.unusedVariables false

/-- How a value lies in a row: its type, its cells. -/
structure En (α : Type) where
  t : TypeId
  k : Nat
  sz : Nat
  z : Value
  e : α → List Value
  len : ∀ a, (e a).length = k
  one : ∀ a, ∀ u ∈ e a, u.oneCell' = true
  kpos : 0 < k
  info : (Tryd.prog.info? t).map (fun i => (i.zero, i.size, i.bytes)) = some (some z, k, sz)
  zc : z.cells.size = k
  szb : sz ≤ 1000

section
variable {α : Type} {E : En α} {w w' W W' : World} {v : Value} {l a b : List α}
def En.cs (E : En α) (l : List α) : List Value := l.flatMap E.e
theorem cs_length (l : List α) : (E.cs l).length = l.length * E.k := by
  induction l with
  | nil => simp [En.cs]
  | cons p l ih =>
    show (E.e p ++ E.cs l).length = _
    rw [List.length_append, ih, E.len, List.length_cons, Nat.succ_mul]
    omega
theorem cs_append (a b : List α) : E.cs (a ++ b) = E.cs a ++ E.cs b := by unfold En.cs; rw [List.flatMap_append]
theorem cs_one (p : α) : E.cs [p] = E.e p := by simp [En.cs]
theorem cs_plain (l : List α) : ∀ u ∈ E.cs l, u.oneCell' = true := by
  intro u hu
  obtain ⟨p, _, hp⟩ := List.mem_flatMap.1 hu
  exact E.one p u hp
theorem cs_at (l : List α) (i : Nat) (h : i < l.length) (f : Nat) (hf : f < E.k) : (E.cs l)[i * E.k + f]? = (E.e l[i])[f]? := by
  induction l generalizing i with
  | nil => cases h
  | cons p l ih =>
    show (E.e p ++ E.cs l)[i * E.k + f]? = _
    have hl := E.len p
    cases i with
    | zero => rw [Nat.zero_mul, Nat.zero_add, List.getElem?_append_left (by omega)]; rfl
    | succ i =>
      rw [List.getElem?_append_right (by rw [Nat.succ_mul]; omega)]
      have : (i + 1) * E.k + f - (E.e p).length = i * E.k + f := by rw [hl, Nat.succ_mul]; omega
      rw [this]
      exact ih i (by simpa using h)
theorem cs_drop (l : List α) (n : Nat) (j : Nat) : (E.cs (l.drop n))[j]? = (E.cs l)[n * E.k + j]? ∨ l.length < n := by
  by_cases h : l.length < n
  · exact .inr h
  · left
    have e : E.cs l = E.cs (l.take n) ++ E.cs (l.drop n) := by rw [← cs_append, List.take_append_drop]
    have hl : (E.cs (l.take n)).length = n * E.k := by rw [cs_length, List.length_take, Nat.min_eq_left (by omega)]
    rw [e, List.getElem?_append_right (by omega), hl]
    congr 1; omega

/-- A slice from which these values are read. -/
def RdG (E : En α) (w : World) (v : Value) (l : List α) : Prop :=
  ∃ A c, v = .slice A l.length c ∧ l.length ≤ c ∧ c ≤ maxLen ∧ (l = [] ∨ ∃ b o, A = some ⟨b, o, none⟩ ∧ ∀ (j : Nat) (u : Value), (E.cs l)[j]? = some u → w.cell? ⟨b, o + j, none⟩ = some u)
theorem RdG.zero (w : World) : RdG E w (.slice none 0 0) [] := ⟨_, _, rfl, Nat.le_refl _, Nat.zero_le _, .inl rfl⟩
theorem RdG.form (h : RdG E w v l) : ∃ A c, v = .slice A l.length c := by obtain ⟨A, c, e, _⟩ := h; exact ⟨A, c, e⟩
theorem RdG.caps {A : Option Addr} {n c : Nat} (h : RdG E w (.slice A n c) l) : n = l.length ∧ n ≤ c ∧ c ≤ maxLen := by
  obtain ⟨A', c', e, h1, h2, _⟩ := h
  simp only [Value.slice.injEq] at e
  obtain ⟨_, rfl, rfl⟩ := e
  exact ⟨rfl, h1, h2⟩
theorem RdG.nx (h : RdG E w v l) (k : Nx w w') : RdG E w' v l := by
  obtain ⟨A, c, e, h1, h2, h3⟩ := h
  refine ⟨A, c, e, h1, h2, h3.imp id ?_⟩
  rintro ⟨b, o, rfl, hc⟩
  exact ⟨b, o, rfl, fun j u hu => by
    have h1 := hc j u hu
    rw [World.cell?_of_block (k.block b (World.block_lt_of_cell? w ⟨b, o + j, none⟩ h1))]; exact h1⟩
/-- An element's cells. -/
theorem RdG.at {A : Option Addr} {n c : Nat} (h : RdG E w (.slice A n c) l) (i : Nat) (hi : i < l.length) : ∃ b o, A = some ⟨b, o, none⟩ ∧ ∀ f u, (E.e l[i])[f]? = some u → w.cell? ⟨b, o + i * E.k + f, none⟩ = some u := by
  obtain ⟨A', c', e, _, _, e5 | ⟨b, o, e5, hc⟩⟩ := h
  · subst e5; cases hi
  · simp only [Value.slice.injEq] at e
    refine ⟨b, o, by rw [e.1, e5], fun f u hu => ?_⟩
    have hf : f < E.k := by rw [← E.len l[i]]; exact (List.getElem?_eq_some_iff.1 hu).1
    rw [Nat.add_assoc]
    exact hc _ u (by rw [cs_at l i hi f hf]; exact hu)
/-- What is left behind its first elements. -/
theorem RdG.drop {A : Option Addr} {n c : Nat} (h : RdG E w (.slice A n c) l) (lo : Nat) (hl : lo ≤ l.length) (A' : Option Addr) (hA : lo < l.length → A' = A.map (·.add (lo * E.k))) : RdG E w (.slice A' (n - lo) (c - lo)) (l.drop lo) := by
  obtain ⟨h0, h1, h2⟩ := h.caps
  obtain ⟨A2, c2, e, _, _, h3⟩ := h
  simp only [Value.slice.injEq] at e
  obtain ⟨rfl, _, rfl⟩ := e
  refine ⟨A', c - lo, by rw [List.length_drop, h0], by rw [List.length_drop]; omega, by omega, ?_⟩
  by_cases hlt : lo < l.length
  · right
    rcases h3 with rfl | ⟨b, o, rfl, hc⟩
    · cases hlt
    · refine ⟨b, o + lo * E.k, by rw [hA hlt]; simp [add_plain], fun j u hu => ?_⟩
      rw [Nat.add_assoc]
      refine hc _ u ?_
      rcases cs_drop (E := E) l lo j with h | h
      · rw [← h]; exact hu
      · omega
  · left
    rw [List.drop_eq_nil_of_le (by omega)]

/-- A row of the call's own: nil, or at the head of a block of its own, at or beyond block B. -/
def RwG (E : En α) (W : World) (B : Nat) (v : Value) (l : List α) : Prop := W.ownsRow B E.t E.k v l.length (E.cs l)
theorem own_blk {B size : Nat} {e : TypeId} {n : Nat} {xs : List Value} (h : W.ownsRow B e size v n xs) {j : Nat} (hj : v.ownBlock = some j) : B ≤ j ∧ ∃ cs, BlkIs W j e cs := by
  rcases h.2 with ⟨rfl, _⟩ | ⟨g, cap, cur, rfl, hb, hg, _⟩
  · cases hj
  · obtain rfl : g = j := by simpa [Value.ownBlock] using hj
    exact ⟨hb, cur, hg⟩
theorem own_keep {B : Nat} {e : TypeId} {n size : Nat} {xs : List Value} (h : W.ownsRow B e size v n xs) (hk : ∀ j, v.ownBlock = some j → W'.heap[j]? = W.heap[j]?) : W'.ownsRow B e size v n xs := by
  refine ⟨h.1, h.2.imp id ?_⟩
  rintro ⟨g, cap, cur, rfl, hb, hg, r⟩
  exact ⟨g, cap, cur, rfl, hb, (hk g rfl).trans hg, r⟩
theorem RwG.nil (W : World) (B : Nat) : RwG E W B (.slice none 0 0) [] := World.ownsRow_nil _ _ _ _
theorem RwG.keep {B : Nat} (h : RwG E W B v l) (hk : ∀ j, v.ownBlock = some j → W'.heap[j]? = W.heap[j]?) : RwG E W' B v l := own_keep h hk
theorem RwG.nx {B : Nat} (h : RwG E W B v l) (k : Nx W W') : RwG E W' B v l := own_keep h fun j hj => k.block j (by
  obtain ⟨_, cs, hc⟩ := own_blk h hj
  exact hc.lt)
theorem RwG.more {B B' : Nat} (h : RwG E W B v l) (hB : B' ≤ B) : RwG E W B' v l := ⟨h.1, h.2.imp id fun ⟨g, cap, cur, e, hb, r⟩ => ⟨g, cap, cur, e, Nat.le_trans hB hb, r⟩⟩
theorem RwG.rd {B : Nat} (h : RwG E W B v l) : RdG E W v l := by
  have hr := h
  rcases h.2 with ⟨rfl, h0⟩ | ⟨g, cap, cur, rfl, _, _, hnc, hcm, _⟩
  · obtain rfl := List.eq_nil_of_length_eq_zero h0
    exact RdG.zero _
  · exact ⟨_, _, rfl, hnc, hcm, .inr ⟨g, 0, rfl, fun j u hu => by
      have := World.ownsRow.cells (w := W) hr (g := g) rfl j u hu
      rwa [add_plain] at this⟩⟩
theorem RwG.form {B : Nat} (h : RwG E W B v l) : ∃ A c, v = .slice A l.length c := h.rd.form
theorem Nx.grow {W0 : World} {B : Nat} (h : Nx W0 W) (hr : RwG E W B v l) (hB : W0.heap.size ≤ B) (hg : W.grownBy W' v.ownBlock) : Nx W0 W' :=
  Below.trans h ((Chd.of_grown hg).below h.size fun k hk e => by have := (own_blk hr e).1; omega)
theorem rd_lit (w : World) (p : α) {c : Array Value} (hc : c.toList = E.e p) : RdG E (w.alloc (.cells c E.t)) (.slice (some ⟨w.heap.size, 0, none⟩) 1 1) [p] :=
  ⟨_, _, rfl, Nat.le_refl _, by unfold maxLen; omega, .inr ⟨_, _, rfl, fun j u hu => by
    rw [(BlkIs.new w E.t c).cell, Nat.zero_add, ← Array.getElem?_toList, hc]
    rwa [cs_one] at hu⟩⟩
theorem rw_lit (w : World) (B : Nat) (hB : B ≤ w.heap.size) {c : Array Value} (l : List α) (hm : l.length ≤ maxLen) (hc : c.toList = E.cs l) : RwG E (w.alloc (.cells c E.t)) B (.slice (some ⟨w.heap.size, 0, none⟩) l.length l.length) l := by
  have h := World.ownsRow_lit (base := B) (e := E.t) (size := E.k) w c l.length hB hm (by rw [← Array.length_toList, hc, cs_length])
  rw [hc] at h
  exact h

theorem run_app_none {P : Program} (base : Nat) (t ty e : TypeId) (i : TypeInfo) (size c : Nat) (ht : P.underlying t = some (.slice e)) (hi : P.info? e = some i)
    (n : Nat) (xs : List Value) (hown : w.ownsRow base e size v n xs) :
    (Builtin.append_ #[t, t] ty #[v, .slice none 0 c]).run P w = .ok v w := by
  rcases hown.2 with ⟨rfl, rfl⟩ | ⟨g, cap, cur, rfl, _, _, hnc, _⟩
  · simp [Builtin.append_, run_underlying ht, sizeOf, typeInfo, hi, Builtin.lenOf, Builtin.firstCells]
  · simp [Builtin.append_, run_underlying ht, sizeOf, typeInfo, hi, Builtin.lenOf, Builtin.firstCells, hnc, storeCells]
/-- A slice is appended to a row of the call's own. -/
theorem run_appG (st : TypeId) (ht : Tryd.prog.underlying st = some (.slice E.t)) (B : Nat) (x : Value) (hv : RwG E W B v a) (hx : RdG E W x b) (hn : a.length + b.length ≤ 1000000000) (hB : B ≤ W.heap.size) (ty : TypeId) :
    ∃ v' w', (Builtin.append_ #[st, st] ty #[v, x]).run Tryd.prog W = .ok v' w' ∧ RwG E w' B v' (a ++ b) ∧ W.grownBy w' v.ownBlock := by
  obtain ⟨i0, hi, hz0, hz1, hz2⟩ := info_parts E.info
  have hs1 := E.szb
  have hs2 : (a.length + b.length) * E.sz ≤ 1000000000 * 1000 := Nat.mul_le_mul hn hs1
  have key : ∀ (ad : Addr) (c : Nat), x = .slice (some ad) b.length c → (∀ (j : Nat) (u : Value), (E.cs b)[j]? = some u → W.cell? (ad.add j) = some u) → ∃ v' w', (Builtin.append_ #[st, st] ty #[v, x]).run Tryd.prog W = .ok v' w' ∧ RwG E w' B v' (a ++ b) ∧ W.grownBy w' v.ownBlock := fun ad c hxe hc => by
    subst hxe
    obtain ⟨v', w', h1, h2, h3, _⟩ := run_append_own (P := Tryd.prog) W B st ty E.t i0 E.z E.k E.sz ht hi hz0 hz1 hz2 E.zc E.kpos v a.length (E.cs a) hv ad b.length c (E.cs b) (cs_length b) hc (cs_plain b) (by unfold maxLen; omega) (by omega) hB
    exact ⟨v', w', h1, by unfold RwG; rw [List.length_append, cs_append]; exact h2, h3⟩
  obtain ⟨A, c, rfl, _, _, rfl | ⟨b', o, rfl, hc⟩⟩ := hx
  · cases A with
    | none => exact ⟨v, W, run_app_none B st ty E.t i0 E.k c ht hi a.length (E.cs a) hv, by rw [List.append_nil]; exact hv, World.grownBy.refl W _⟩
    | some ad => exact key ad c rfl (fun j u hu => by simp [En.cs] at hu)
  · exact key _ c rfl (fun j u hu => by rw [add_plain]; exact hc j u hu)
theorem wpList_appG {ops : Array Oper} {rest : List Oper} {o : Oper} {ac : Act} {Q : Exit → Act → World → Prop} (st : TypeId) (ht : Tryd.prog.underlying st = some (.slice E.t)) (hgd : o.guard = none) (s x : Operand)
    (ho : o.op = .call { callee := .builtin .append, args := #[s, x], argTypes := #[st, st] })
    (B : Nat) (v xv : Value) (l m : List α) (hs : ac.eval s = v) (hx : ac.eval x = xv) (hv : RwG E W B v l) (hr : RdG E W xv m) (hn : l.length + m.length ≤ 1000000000) (hB : B ≤ W.heap.size)
    (h : ∀ v' w', RwG E w' B v' (l ++ m) → W.grownBy w' v.ownBlock → wpList Tryd.prog ops Q rest (ac.put o.dst v') w') : wpList Tryd.prog ops Q (o :: rest) ac W :=
  wpList_plain hgd fun K hK => by
    obtain ⟨v', w', h1, h2, h3⟩ := run_appG st ht B xv hv hr hn hB o.type
    unfold Oper.wp execOp
    simp only [ho, resolve, invoke, builtin, Sem.run_bind, Sem.run_pure, Result.andThen_ok, List.map_toArray, List.map_cons, List.map_nil, hs, hx, h1]
    exact hK _ _ (h v' w' h2 h3)
theorem run_appGW {ac : Act} {o : Oper} (st : TypeId) (ht : Tryd.prog.underlying st = some (.slice E.t)) (s x : Operand) (ho : o.op = .call { callee := .builtin .append, args := #[s, x], argTypes := #[st, st] }) (B : Nat) (v xv : Value) (l m : List α) (hs : ac.eval s = v) (hx : ac.eval x = xv) (hv : RwG E W B v l) (hr : RdG E W xv m) (hn : l.length + m.length ≤ 1000000000) (hB : B ≤ W.heap.size) :
    ∃ v' w', (execOp ac.eval o).run Tryd.prog W = .ok (.value v') w' ∧ RwG E w' B v' (l ++ m) ∧ W.grownBy w' v.ownBlock := by
  obtain ⟨v', w', h1, h2, h3⟩ := run_appG st ht B xv hv hr hn hB o.type
  refine ⟨v', w', ?_, h2, h3⟩
  unfold execOp
  simp only [ho, resolve, invoke, builtin, Sem.run_bind, Sem.run_pure, Result.andThen_ok, List.map_toArray, List.map_cons, List.map_nil, hs, hx, h1]
/-- At a step of a region that draws its order. -/
theorem step_appG (E : En α) {ops : Array Oper} {o : Oper} {ac : Act} {K : Act → World → Prop} {Q : Exit → Act → World → Prop} {F : Prop} (st : TypeId) (ht : Tryd.prog.underlying st = some (.slice E.t)) (hgd : o.guard = none) (s x : Operand)
    (ho : o.op = .call { callee := .builtin .append, args := #[s, x], argTypes := #[st, st] })
    (B : Nat) (v xv : Value) (l m : List α) (hs : ac.eval s = v) (hx : ac.eval x = xv) (hv : RwG E W B v l) (hr : RdG E W xv m) (hn : l.length + m.length ≤ 1000000000) (hB : B ≤ W.heap.size)
    (h : ∀ v' w', RwG E w' B v' (l ++ m) → W.grownBy w' v.ownBlock → K (ac.put o.dst v') w') :
    if Region.wanted o (yielded ops ac.tmps) = true then Oper.wp Tryd.prog o ac W K Q else F := by
  have hw : Region.wanted o (yielded ops ac.tmps) = true := by simp [Region.wanted, hgd]
  rw [if_pos hw]
  obtain ⟨v', w', h1, h2, h3⟩ := run_appG st ht B xv hv hr hn hB o.type
  unfold Oper.wp execOp
  simp only [ho, resolve, invoke, builtin, Sem.run_bind, Sem.run_pure, Result.andThen_ok, List.map_toArray, List.map_cons, List.map_nil, hs, hx, h1]
  exact h v' w' h2 h3
end
end Go.Proofs.YtlmfjalkgapcgaaDoor

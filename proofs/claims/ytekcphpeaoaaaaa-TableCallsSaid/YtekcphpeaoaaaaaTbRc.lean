/- Package table: appends to a row that has no room: nothing old is written. -/
import Derived.Test.YtekcphpeaoaaaaaTbRg
namespace Go.Proofs.Ytekcphpeaoaaaaa
open Go.RowKit Go.Shelf
set_option linter.unusedVariables false

theorem run_append_zero {P : Program} {w : World} (t ty e : TypeId) (i : TypeInfo) (n k c : Nat) (ad g : Option Addr) (ht : P.underlying t = some (.slice e)) (hi : P.info? e = some i) (hnk : n ≤ k) (hg : g ≠ none) :
    (Builtin.append_ #[t, t] ty #[.slice g n k, .slice ad 0 c]).run P w = .ok (.slice g n k) w := by
  cases g with
  | none => exact absurd rfl hg
  | some g => cases ad <;> simp [Builtin.append_, run_underlying ht, sizeOf, typeInfo, hi, Builtin.lenOf, Builtin.firstCells, hnk, storeCells, loadCells, loadCellsFrom]
/-- .. and this is so of a row whose room is taken. -/
theorem run_app_full (W : World) (B g n : Nat) (x : Value) (a b : List Pr) (hv : Row W B (.slice (some ⟨g, 0, none⟩) n n) a) (hx : RdC W x b) (hn : a.length + b.length ≤ 1000000000) (hB : B ≤ W.heap.size) (ty : TypeId) :
    ∃ v' w', (Builtin.append_ #[33, 33] ty #[.slice (some ⟨g, 0, none⟩) n n, x]).run Try.prog W = .ok v' w' ∧ Row w' B v' (a ++ b) ∧ Nx W w' := by
  obtain ⟨i0, hi, hz0, hz1, hz2⟩ := info_parts info_pair
  obtain ⟨v', w', h1, h2, h3⟩ := run_app W B _ x a b hv hx hn hB ty
  refine ⟨v', w', h1, h2, ?_⟩
  have hna : n = a.length := by
    rcases hv.2 with ⟨e, _⟩ | ⟨g', cap, cur, e, _⟩
    · cases e
    · simp only [Value.slice.injEq] at e
      exact e.2.1
  obtain ⟨A, c, rfl, _, _, hb⟩ := hx
  by_cases hbz : b = []
  · subst hbz
    have h4 := run_append_zero (P := Try.prog) (w := W) 33 ty 40 i0 n n c A (some ⟨g, 0, none⟩) Try.underlying33 hi (Nat.le_refl _) (by simp)
    rw [show ([] : List Pr).length = 0 from rfl, h4] at h1
    simp only [Result.ok.injEq] at h1
    rw [← h1.2]
    exact Nx.refl W
  · rcases hb with hb | ⟨b', o, rfl, hc⟩
    · exact absurd hb hbz
    · have hbl : 0 < b.length := List.length_pos_iff.2 hbz
      have holds : ∀ (j : Nat) (u : Value), (prsC a)[j]? = some u → W.cell? ((⟨g, 0, none⟩ : Addr).add j) = some u := World.ownsRow.cells hv (g := g) rfl
      have h4 := run_append_grow (P := Try.prog) W 33 ty 40 i0 _ Try.underlying33 hi hz0 ⟨g, 0, none⟩ n n (prsC a) (by rw [hz1, prsC_length, hna]) holds ⟨b', o, none⟩ b.length c (prsC b) (by rw [hz1, prsC_length]) (fun j u hu => by rw [add_plain]; exact hc j u hu) (by omega) (by omega) (growslice_fits (by omega) (by rw [hz2]; omega))
      rw [h4] at h1
      simp only [Result.ok.injEq] at h1
      rw [← h1.2]
      exact (Nx.refl W).drew.alloc _
theorem run_appF {a : Act} {W : World} {o : Oper} (s x : Operand) (ho : o.op = .call { callee := .builtin .append, args := #[s, x], argTypes := #[33, 33] }) (B g n : Nat) (xv : Value) (l m : List Pr) (hs : a.eval s = .slice (some ⟨g, 0, none⟩) n n) (hx : a.eval x = xv) (hv : Row W B (.slice (some ⟨g, 0, none⟩) n n) l) (hr : RdC W xv m) (hn : l.length + m.length ≤ 1000000000) (hB : B ≤ W.heap.size) :
    ∃ v' w', (execOp a.eval o).run Try.prog W = .ok (.value v') w' ∧ Row w' B v' (l ++ m) ∧ Nx W w' := by
  obtain ⟨v', w', h1, h2, h3⟩ := run_app_full W B g n xv l m hv hr hn hB o.type
  refine ⟨v', w', ?_, h2, h3⟩
  unfold execOp
  simp only [ho, resolve, invoke, builtin, Sem.run_bind, Sem.run_pure, Result.andThen_ok, List.map_toArray, List.map_cons, List.map_nil, hs, hx, h1]
/-- An empty row, or one of one pair, whose room is taken. -/
def Full (B : Nat) (l : List Pr) (v : Value) (W : World) : Prop := ∃ g n, v = .slice (some ⟨g, 0, none⟩) n n ∧ Row W B v l
theorem Full.nx {B : Nat} {l : List Pr} {v : Value} {W W' : World} (h : Full B l v W) (k : Nx W W') : Full B l v W' := by
  obtain ⟨g, n, e, hr⟩ := h
  exact ⟨g, n, e, hr.nx k⟩
theorem full_none (W : World) (B : Nat) (hB : B ≤ W.heap.size) : Full B [] (.slice (some ⟨W.heap.size, 0, none⟩) 0 0) (W.alloc (.cells #[] 40)) := ⟨_, _, rfl, row_new W B hB⟩
theorem full_one (W : World) (B : Nat) (hB : B ≤ W.heap.size) (p : Pr) : Full B [p] (.slice (some ⟨W.heap.size, 0, none⟩) 1 1) (W.alloc (.cells (prC p).toArray 40)) := by
  refine ⟨_, _, rfl, ?_⟩
  unfold Row
  rw [prsC_one]
  exact World.ownsRow_lit W (prC p).toArray 1 hB (by decide) rfl
/-- What is ahead of a place, and what is from it on. -/
theorem RdC.lo {w : World} {b o c n : Nat} {xs : List KV} (h : RdC w (.slice (some ⟨b, o, none⟩) n c) (xs.map prOf)) (k : Nat) (hk : k ≤ xs.length) : RdC w (.slice (some ⟨b, o, none⟩) k c) ((xs.take k).map prOf) := by
  have hn : n = (xs.map prOf).length := by
    obtain ⟨A, c', e, _⟩ := h
    simp only [Value.slice.injEq] at e
    exact e.2.1
  subst hn
  have h2 := RdC.take h k (by rw [List.length_map]; exact hk)
  rwa [← List.map_take] at h2
theorem RdC.hi {w : World} {b o c n : Nat} {xs : List KV} (h : RdC w (.slice (some ⟨b, o, none⟩) n c) (xs.map prOf)) (k : Nat) (hk : k ≤ xs.length) (A' : Addr) (c' : Nat) (hA : (A' = ⟨b, o + k * 3, none⟩ ∧ c' = c - k) ∨ (xs.length = k ∧ c' = 0)) : RdC w (.slice (some A') (n - k) c') ((xs.drop k).map prOf) := by
  have hn : n = (xs.map prOf).length := by
    obtain ⟨A, c', e, _⟩ := h
    simp only [Value.slice.injEq] at e
    exact e.2.1
  subst hn
  have h2 := RdC.dropN h k (by rw [List.length_map]; exact hk) A' c' (hA.imp id fun ⟨h1, h2⟩ => ⟨by rw [List.length_map]; exact h1, h2⟩)
  rwa [← List.map_drop] at h2
theorem Row.store {w : World} {B : Nat} {v : Value} {l : List Pr} (h : Row w B v l) {g : Nat} (hg : g < B) (u : Value) : Row (w.setCell ⟨g, 0, none⟩ u) B v l := row_of_blk h fun j hj => by
  have h1 := (own_row_blk' h hj).1
  exact (Chd.set w g 0 u).block j (by
    obtain ⟨_, cs, hc⟩ := own_row_blk' h hj
    exact hc.lt) (by omega)
theorem Full.store {w : World} {B : Nat} {v : Value} {l : List Pr} (h : Full B l v w) {g : Nat} (hg : g < B) (u : Value) : Full B l v (w.setCell ⟨g, 0, none⟩ u) := by
  obtain ⟨g', n, e, hr⟩ := h
  exact ⟨g', n, e, hr.store hg u⟩
theorem run_lo {a : Act} {W : World} {o : Oper} {x h : Operand} {b o' n c k : Nat} (ho : o.op = .slice 33 x none (some h) none) (hx : a.eval x = .slice (some ⟨b, o', none⟩) n c) (hh : a.eval h = .int .i64 (k : Int)) (hk : k ≤ n) (hc : n ≤ c) :
    (execOp a.eval o).run Try.prog W = .ok (.value (.slice (some ⟨b, o', none⟩) k c)) W := by
  have q1 : (k : Int) ≤ (n : Int) := by omega
  have q2 : (n : Int) ≤ (c : Int) := by omega
  have q3 : (k : Int) ≤ (c : Int) := by omega
  have q4 : (0 : Int) ≤ (k : Int) := by omega
  have q5 : k ≤ c := by omega
  unfold execOp
  simp only [ho, Option.map_some, Option.map_none, hx, hh]
  simp [go_sem, q3, q4]
theorem run_lo0 {a : Act} {W : World} {o : Oper} {x h : Operand} (ho : o.op = .slice 33 x none (some h) none) (hx : a.eval x = .slice none 0 0) (hh : a.eval h = .int .i64 ((0 : Nat) : Int)) :
    (execOp a.eval o).run Try.prog W = .ok (.value (.slice none 0 0)) W := by
  unfold execOp
  simp only [ho, Option.map_some, Option.map_none, hx, hh]
  simp [go_sem]
theorem run_hi0 {a : Act} {W : World} {o : Oper} {x h : Operand} (ho : o.op = .slice 33 x (some h) none none) (hx : a.eval x = .slice none 0 0) (hh : a.eval h = .int .i64 ((0 : Nat) : Int)) :
    (execOp a.eval o).run Try.prog W = .ok (.value (.slice none 0 0)) W := by
  unfold execOp
  simp only [ho, Option.map_some, Option.map_none, hx, hh]
  simp [go_sem]
theorem run_hi {a : Act} {W W0 : World} {o : Oper} {x h : Operand} {b o' n c k : Nat} {xs : List KV} (ho : o.op = .slice 33 x (some h) none none) (hx : a.eval x = .slice (some ⟨b, o', none⟩) n c) (hh : a.eval h = .int .i64 (k : Int)) (hk : k ≤ n) (hc : n ≤ c) (hn : n = xs.length) (hr : RdC W0 (.slice (some ⟨b, o', none⟩) n c) (xs.map prOf)) :
    ∃ v', (execOp a.eval o).run Try.prog W = .ok (.value v') W ∧ RdC W0 v' ((xs.drop k).map prOf) := by
  have q1 : (k : Int) ≤ (n : Int) := by omega
  have q2 : (n : Int) ≤ (c : Int) := by omega
  have q3 : (k : Int) ≤ (c : Int) := by omega
  have q4 : (0 : Int) ≤ (k : Int) := by omega
  have q5 : k ≤ c := by omega
  have q6 : k ≤ n := hk
  by_cases hck : c = k
  · have hnk : n = k := by omega
    refine ⟨.slice (some ⟨b, o', none⟩) (n - k) 0, ?_, RdC.hi hr k (by omega) ⟨b, o', none⟩ 0 (.inr ⟨by omega, rfl⟩)⟩
    unfold execOp
    simp only [ho, Option.map_some, Option.map_none, hx, hh]
    subst hck
    simp [go_sem, q1, q4]
  · refine ⟨.slice (some ⟨b, o' + k * 3, none⟩) (n - k) (c - k), ?_, RdC.hi hr k (by omega) ⟨b, o' + k * 3, none⟩ _ (.inl ⟨rfl, rfl⟩)⟩
    have hck2 : ¬ c - k = 0 := by omega
    have hck3 : ¬ k = c := fun e => hck e.symm
    unfold execOp
    simp only [ho, Option.map_some, Option.map_none, hx, hh]
    simp [go_sem, hck, q1, q4]
theorem run_build1 {a : Act} {W : World} {o : Oper} {x : Operand} {A : Option Addr} {n c : Nat} (ho : o.op = .build 36 #[(0, x)]) (hx : a.eval x = .slice A n c) : (execOp a.eval o).run Try.prog W = .ok (.value (.agg #[.slice A n c])) W := by
  unfold execOp
  simp only [ho, List.map_toArray, List.map_cons, List.map_nil, hx]
  simp [go_sem]
/-! ### Changes, step by step -/
theorem belowN_zero {k : Str} {y : KV} {r : List KV} (h : lt y.1 k = false) : belowN k (y :: r) = 0 := by rw [belowN_place]; unfold place; rw [h]; rfl
theorem chg_gone (x : KV) (xs : List KV) : chg (x :: xs) [] = goneOf x :: chg xs [] := by rw [chg_cons]; rfl
theorem chg_gone2 {x y : KV} (xs r : List KV) (h : lt x.1 y.1 = true) : chg (x :: xs) (y :: r) = goneOf x :: chg xs (y :: r) := by
  rw [chg_cons, belowN_zero (lt_asymm h)]
  have hne : y.1 ≠ x.1 := fun e => by rw [e, lt_irrefl] at h; cases h
  simp only [List.take_zero, List.drop_zero, List.map_nil, List.nil_append]
  unfold atKey
  simp only
  rw [if_neg hne]
  rfl
theorem chg_put (y : KV) (r : List KV) : chg [] (y :: r) = prOf y :: chg [] r := rfl
theorem chg_put2 {x y : KV} (xs r : List KV) (h : lt y.1 x.1 = true) : chg (x :: xs) (y :: r) = prOf y :: chg (x :: xs) r := by
  rw [chg_cons, chg_cons]
  have e : belowN x.1 (y :: r) = belowN x.1 r + 1 := by rw [belowN_place, belowN_place]; show (if lt y.1 x.1 then _ else _) = _; rw [if_pos h]
  rw [e, List.take_succ_cons, List.drop_succ_cons]
  rfl
theorem chg_same {x y : KV} (xs r : List KV) (h : y.1 = x.1) : chg (x :: xs) (y :: r) = (if y.2 = x.2 then [] else [prOf y]) ++ chg xs r := by
  rw [chg_cons, belowN_zero (by rw [h, lt_irrefl])]
  simp only [List.take_zero, List.drop_zero, List.map_nil, List.nil_append]
  unfold atKey
  simp only
  rw [if_pos h]
end Go.Proofs.Ytekcphpeaoaaaaa

/- Package table: l = append(l, n.pair()) in the body of a loop over an iterator: a region that draws its order, over any slots. -/
import Derived.Test.YtekcphpeaoaaaaaTbLoop
import Derived.Test.YtekcphpeaoaaaaaTbRound
import Derived.Deep.AppendLies
namespace Go.Proofs.Ytekcphpeaoaaaaa
open Go.RowKit
set_option linter.unusedVariables false

/-- But for five slots from d on. -/
structure PA (a0 a : Act) (d : Nat) : Prop where
  df : a.defers = a0.defers
  sz : a.tmps.size = a0.tmps.size
  ot : ∀ i, i < d ∨ d + 5 ≤ i → a.tmps[i]? = a0.tmps[i]?
theorem PA.refl (a : Act) (d : Nat) : PA a a d := ⟨rfl, rfl, fun _ _ => rfl⟩
theorem PA.put {a0 a : Act} {d : Nat} (h : PA a0 a d) (j : Nat) (h1 : d ≤ j) (h2 : j < d + 5) (v : Value) : PA a0 (a.put (some j) v) d :=
  ⟨h.df, by show (a.tmps.setIfInBounds j v).size = _; rw [Array.size_setIfInBounds]; exact h.sz, fun i hi => by
    show (a.tmps.setIfInBounds j v)[i]? = _
    rw [Array.getElem?_setIfInBounds_ne (by omega)]
    exact h.ot i hi⟩
theorem PA.none {a0 a : Act} {d : Nat} (h : PA a0 a d) (v : Value) : PA a0 (a.put none v) d := h
theorem eval_put {a : Act} {j : Nat} (h : j < a.tmps.size) (v : Value) : (a.put (some j) v).eval (.tmp j) = v := by
  show (a.tmps.setIfInBounds j v).getD j undef = v
  rw [Array.getD_eq_getD_getElem?, Array.getElem?_setIfInBounds_self_of_lt h]; rfl
theorem eval_put_ne {a : Act} {i j : Nat} (h : j ≠ i) (v : Value) : (a.put (some j) v).eval (.tmp i) = a.eval (.tmp i) := by
  show (a.tmps.setIfInBounds j v).getD i undef = a.tmps.getD i undef
  rw [Array.getD_eq_getD_getElem?, Array.getElem?_setIfInBounds_ne h, Array.getD_eq_getD_getElem?]
theorem PA.eval {a0 a : Act} {d : Nat} (h : PA a0 a d) {i : Nat} (hi : i < d ∨ d + 5 ≤ i) : a.eval (.tmp i) = a0.eval (.tmp i) := by
  show a.tmps.getD i undef = a0.tmps.getD i undef
  rw [Array.getD_eq_getD_getElem?, Array.getD_eq_getD_getElem?, h.ot i hi]
theorem PA.lt {a0 a : Act} {d : Nat} (h : PA a0 a d) (hd : d + 5 ≤ a0.tmps.size) {j : Nat} (hj : j < d + 5) : j < a.tmps.size := by have := h.sz; omega
theorem eval_func (a : Act) (f : FuncId) : a.eval (.func f) = .func (.func f) #[] #[] := rfl
theorem PA.form {a0 a : Act} {d : Nat} (h : PA a0 a d) (hd : d + 5 ≤ a0.tmps.size) : ∃ u0 u1 u2 u3 u4, a = { tmps := ((((a0.tmps.setIfInBounds d u0).setIfInBounds (d + 1) u1).setIfInBounds (d + 2) u2).setIfInBounds (d + 3) u3).setIfInBounds (d + 4) u4, defers := a0.defers } := by
  refine ⟨a.tmps.getD d undef, a.tmps.getD (d + 1) undef, a.tmps.getD (d + 2) undef, a.tmps.getD (d + 3) undef, a.tmps.getD (d + 4) undef, ?_⟩
  obtain ⟨t, df⟩ := a
  have e := h.df
  simp only at e
  subst e
  congr 1
  apply Array.ext_getElem?
  intro i
  have hs : t.size = a0.tmps.size := h.sz
  by_cases hi : i < d ∨ d + 5 ≤ i
  · rw [h.ot i hi]
    simp only [Array.getElem?_setIfInBounds]
    rw [if_neg (by omega), if_neg (by omega), if_neg (by omega), if_neg (by omega), if_neg (by omega)]
  · have : i = d ∨ i = d + 1 ∨ i = d + 2 ∨ i = d + 3 ∨ i = d + 4 := by omega
    rcases this with rfl | rfl | rfl | rfl | rfl <;> simp [Array.getElem?_setIfInBounds] <;> (first | omega | skip) <;> (rw [Array.getElem?_eq_getElem (by omega)]; simp) <;> omega

section
variable {P : Program} {ops : Array Oper} {Q : Exit → Act → World → Prop} {md : Region.Mode}
theorem wpOp_run {i : Nat} {o : Oper} {K : Act → World → Prop} {a : Act} {w w' : World} {v : Value} (ho : ops[i]? = some o) (hg : o.guard = none) (h : (execOp a.eval o).run P w = .ok (.value v) w') (hK : K (a.put o.dst v) w') : wpOp P ops Q i K a w := by
  refine wpOp_step ho fun K' hK' => ?_
  rw [if_pos (by simp [Region.wanted, hg])]
  show o.upon P a K' Q ((execOp a.eval o).run P w)
  rw [h]
  exact hK' _ _ hK
theorem wpOp_skip {i : Nat} {o : Oper} {K : Act → World → Prop} {a : Act} {w w' : World} (ho : ops[i]? = some o) (hg : o.guard = none) (h : (execOp a.eval o).run P w = .ok .skip w') (hK : K (a.put o.dst undef) w') : wpOp P ops Q i K a w := by
  refine wpOp_step ho fun K' hK' => ?_
  rw [if_pos (by simp [Region.wanted, hg])]
  show o.upon P a K' Q ((execOp a.eval o).run P w)
  rw [h]
  exact hK' _ _ hK
theorem wpOp_enter {i : Nat} {o : Oper} {K : Act → World → Prop} {a : Act} {w : World} {f : FuncId} {args : Array Value} {R : Ending → World → Prop} (ho : ops[i]? = some o) (hg : o.guard = none) (h : (execOp a.eval o).run P w = .ok (.enter f args) w)
    (hc : Calls P f args w R) (hR : ∀ e w', R e w' → ∃ v, e = .returned v ∧ K (a.put o.dst v) w') : wpOp P ops Q i K a w := by
  refine wpOp_step ho fun K' hK' => ?_
  rw [if_pos (by simp [Region.wanted, hg])]
  show o.upon P a K' Q ((execOp a.eval o).run P w)
  rw [h, Oper.upon_enter]
  refine hc.mono fun e w' hr => ?_
  obtain ⟨v, rfl, hk⟩ := hR e w' hr
  exact hK' _ _ hk
end

def pu0 (s x d f : Nat) (po : String) : Oper := { dst := some d, op := .load 33 (.tmp s), type := 33, pos := po, after := #[], guard := none }
def pu1 (s x d f : Nat) (po : String) : Oper := { dst := some (d + 1), op := .move (.tmp x), type := 22, pos := po, after := #[], guard := none }
def pu2 (s x d f : Nat) (po : String) : Oper := { dst := some (d + 2), op := .call { callee := .value (.func f), args := #[.tmp (d + 1)], argTypes := #[22] }, type := 40, pos := po, after := #[{ on := 1, ground := .data }], guard := none }
def pu3 (s x d f : Nat) (po : String) : Oper := { dst := some (d + 3), op := .buildSlice 33 1 #[(0, .tmp (d + 2))], type := 33, pos := po, after := #[{ on := 2, ground := .data }], guard := none }
def pu4 (s x d f : Nat) (po : String) : Oper := { dst := some (d + 4), op := .call { callee := .builtin .append, args := #[.tmp d, .tmp (d + 3)], argTypes := #[33, 33] }, type := 33, pos := po, after := #[{ on := 0, ground := .data }, { on := 3, ground := .data }, { on := 2, ground := .chain }], guard := none }
def pu5 (s x d f : Nat) (po : String) : Oper := { dst := none, op := .store 33 (.tmp s) (.tmp (d + 4)), type := 0, pos := po, after := #[{ on := 4, ground := .data }, { on := 4, ground := .chain }, { on := 0, ground := .phase }, { on := 1, ground := .phase }, { on := 2, ground := .phase }, { on := 3, ground := .phase }, { on := 4, ground := .phase }], guard := none }
def pushOps (s x d f : Nat) (po : String) : Array Oper := #[pu0 s x d f po, pu1 s x d f po, pu2 s x d f po, pu3 s x d f po, pu4 s x d f po, pu5 s x d f po]

section
variable {Q : Exit → Act → World → Prop} {s x d f : Nat} {po : String} {a0 : Act} {w : World} {B bl : Nat} {H : Nat → Prop} {l : List Pr} {p : Pr} {xv : Value} {v : Value}
/-- What must hold ahead of it. -/
structure PushOk (Q : Exit → Act → World → Prop) (s x d f : Nat) (a0 : Act) (w : World) (B bl : Nat) (H : Nat → Prop) (l : List Pr) (p : Pr) (xv v : Value) : Prop where
  he : ∀ args W, (callFunc f args).run Try.prog W = .ok (.enter f args) W
  hs : s < d
  hx : x < d
  hd : d + 5 ≤ a0.tmps.size
  es : a0.eval (.tmp s) = .pointer (some ⟨bl, 0, none⟩)
  ex : a0.eval (.tmp x) = xv
  hf : ∀ W, Nx w W → Calls Try.prog f #[xv] W fun e W' => e = .returned (prV p) ∧ Nx W W'
  hb : BlkIs w bl 33 #[v]
  hr : w.ownsRow B 40 3 v l.length (prsC l)
  hp : B ≤ bl
  hg : ∀ j, H j ↔ (j = bl ∨ v.ownBlock = some j)
  hl : l.length < 1000000000
  hQ : ∀ a W' H', PA a0 a d → LstAt W' B bl H' (l ++ [p]) → Mv H w H' W' → Q .normal a W'

theorem push_tail4 (ok : PushOk Q s x d f a0 w B bl H l p xv v) {Wc : World} (hn : Nx w Wc) {a : Act} (ha : PA a0 a d) (e0 : a.eval (.tmp d) = v) (e3 : a.eval (.tmp (d + 3)) = .slice (some ⟨Wc.heap.size, 0, none⟩) 1 1) :
    wpAny Try.prog .any (pushOps s x d f po) Q 2 #[true, true, true, true, false, false] a (Wc.alloc (.cells (prC p).toArray 40)) := by
  have hd := ok.hd
  have hz := ha.sz
  have hs := ok.hs
  have hlt := ok.hl
  refine wpAny_all (rs := [4]) (by kernel_rfl) (by simp) fun i hi => ?_
  obtain rfl : i = 4 := by simpa using hi
  obtain ⟨i0, hi, hz0, hz1, hz2⟩ := info_parts info_pair
  have hr : Wc.ownsRow B 40 3 v l.length (prsC l) := row_of_blk ok.hr fun j hj => hn.block j (by
    obtain ⟨_, cs, hc⟩ := own_row_blk' ok.hr hj
    exact hc.lt)
  have hrn := hr.alloc (w := Wc) (.cells (prC p).toArray 40)
  have hbl := ok.hb.lt
  have hsz := hn.size
  have hBl := ok.hp
  obtain ⟨g, cap, w3, hrun, hown, hgrow, hat, hg3⟩ := run_append_lies (P := Try.prog) (w := Wc.alloc (.cells (prC p).toArray 40)) 33 33 B 40 i0 _ 3 40 Try.underlying33 hi hz0 hz1 hz2 rfl (by decide) v l.length (prsC l) hrn ⟨Wc.heap.size, 0, none⟩ 1 1 (prsC [p]) rfl (cells_pr Wc p) (prC_plain p) (by decide) (by unfold maxLen; omega) (by omega) (by simp; omega) _ rfl
  refine wpOp_run (o := pu4 s x d f po) (v := .slice (some ⟨g, 0, none⟩) (l.length + 1) cap) (w' := w3) rfl rfl ?_ ?_
  · simp [pu4, execOp, resolve, invoke, builtin, e0, e3, hrun, Result.andThen]
  have hb1 : BlkIs Wc bl 33 #[v] := ok.hb.nx hn
  obtain ⟨c1, c2, H', hl', hm'⟩ := lst_push hb1 hr ok.hp ok.hg hown hgrow (hat.imp id fun e => by rw [e]; simp)
  refine wpAny_all (rs := [5]) (by kernel_rfl) (by simp) fun i hi => ?_
  obtain rfl : i = 5 := by simpa using hi
  have ha4 := ha.put (d + 4) (by omega) (by omega) (.slice (some ⟨g, 0, none⟩) (l.length + 1) cap)
  have es : (a.put (some (d + 4)) (.slice (some ⟨g, 0, none⟩) (l.length + 1) cap)).eval (.tmp s) = .pointer (some ⟨bl, 0, none⟩) := (ha4.eval (.inl hs)).trans ok.es
  have e4 : (a.put (some (d + 4)) (.slice (some ⟨g, 0, none⟩) (l.length + 1) cap)).eval (.tmp (d + 4)) = .slice (some ⟨g, 0, none⟩) (l.length + 1) cap := eval_put (by omega) _
  refine wpOp_skip (o := pu5 s x d f po) (w' := w3.setCell ⟨bl, 0, none⟩ (.slice (some ⟨g, 0, none⟩) (l.length + 1) cap)) rfl rfl ?_ ?_
  · show (execOp (a.put (some (d + 4)) _).eval (pu5 s x d f po)).run Try.prog w3 = _
    simp only [pu5, execOp, es, e4]
    simp [go_sem, c1, c2]
  · exact wpAny_done (by kernel_rfl) (ok.hQ _ _ _ ha4 hl' ((Mv.of_nx hn (LstAt.cel ⟨v, ok.hb, ok.hr, ok.hp, ok.hg⟩)).trans hm')) _
theorem push_tail3 (ok : PushOk Q s x d f a0 w B bl H l p xv v) {Wc : World} (hn : Nx w Wc) {a : Act} (ha : PA a0 a d) (e0 : a.eval (.tmp d) = v) (e2 : a.eval (.tmp (d + 2)) = prV p) :
    wpAny Try.prog .any (pushOps s x d f po) Q 3 #[true, true, true, false, false, false] a Wc := by
  have hd := ok.hd
  have hz := ha.sz
  refine wpAny_all (rs := [3]) (by kernel_rfl) (by simp) fun i hi => ?_
  obtain rfl : i = 3 := by simpa using hi
  refine wpOp_run (o := pu3 s x d f po) (v := .slice (some ⟨Wc.heap.size, 0, none⟩) 1 1) (w' := Wc.alloc (.cells (prC p).toArray 40)) rfl rfl ?_ ?_
  · simp only [pu3, execOp, List.map_toArray, List.map_cons, List.map_nil, e2, prV]
    simp [go_sem, prC]
    done
  · exact push_tail4 ok hn (ha.put _ (by omega) (by omega) _) ((eval_put_ne (by omega) _).trans e0) (eval_put (by omega) _)
theorem PushOk.cell (ok : PushOk Q s x d f a0 w B bl H l p xv v) {Wc : World} (hn : Nx w Wc) : Wc.cell? ⟨bl, 0, none⟩ = some v := by rw [(ok.hb.nx hn).cell]; rfl
/-- The call, then what is to be done yet. -/
theorem push_tail2 (ok : PushOk Q s x d f a0 w B bl H l p xv v) {Wc : World} (hn : Nx w Wc) {a : Act} (ha : PA a0 a d) (e0 : a.eval (.tmp d) = v) (e1 : a.eval (.tmp (d + 1)) = xv) :
    wpAny Try.prog .any (pushOps s x d f po) Q 4 #[true, true, false, false, false, false] a Wc := by
  have hd := ok.hd
  have hz := ha.sz
  refine wpAny_all (rs := [2]) (by kernel_rfl) (by simp) fun i hi => ?_
  obtain rfl : i = 2 := by simpa using hi
  refine wpOp_enter (o := pu2 s x d f po) rfl rfl ?_ (ok.hf Wc hn) ?_
  · simp only [pu2, execOp, resolve, List.map_toArray, List.map_cons, List.map_nil, e1, eval_func]
    simp [invoke, go_sem, ok.he]
  · rintro e W' ⟨rfl, n'⟩
    exact ⟨_, rfl, push_tail3 ok (hn.trans n') (ha.put _ (by omega) (by omega) _) ((eval_put_ne (by omega) _).trans e0) (eval_put (by omega) _)⟩
/-- What is not loaded yet. -/
theorem push_late (ok : PushOk Q s x d f a0 w B bl H l p xv v) {Wc : World} (hn : Nx w Wc) {a : Act} (ha : PA a0 a d) (e2 : a.eval (.tmp (d + 2)) = prV p) :
    wpAny Try.prog .any (pushOps s x d f po) Q 4 #[false, true, true, false, false, false] a Wc := by
  have hd := ok.hd
  have hs := ok.hs
  have hz := ha.sz
  have es : a.eval (.tmp s) = .pointer (some ⟨bl, 0, none⟩) := (ha.eval (.inl hs)).trans ok.es
  refine wpAny_all (rs := [0, 3]) (by kernel_rfl) (by simp) fun i hi => ?_
  have hi2 : i = 0 ∨ i = 3 := by simpa using hi
  rcases hi2 with rfl | rfl
  · refine wpOp_run (o := pu0 s x d f po) (v := v) (w' := Wc) rfl rfl ?_ ?_
    · have c1 := ok.cell hn
      simp only [pu0, execOp, es]
      simp [go_sem, c1]
    · exact push_tail3 ok hn (ha.put _ (by omega) (by omega) _) (eval_put (by omega) _) ((eval_put_ne (by omega) _).trans e2)
  · refine wpOp_run (o := pu3 s x d f po) (v := .slice (some ⟨Wc.heap.size, 0, none⟩) 1 1) (w' := Wc.alloc (.cells (prC p).toArray 40)) rfl rfl ?_ ?_
    · simp only [pu3, execOp, List.map_toArray, List.map_cons, List.map_nil, e2, prV]
      simp [go_sem, prC]
      done
    · have ha3 := ha.put (d + 3) (by omega) (by omega) (.slice (some ⟨Wc.heap.size, 0, none⟩) 1 1)
      have es3 : (a.put (some (d + 3)) (.slice (some ⟨Wc.heap.size, 0, none⟩) 1 1)).eval (.tmp s) = .pointer (some ⟨bl, 0, none⟩) := (ha3.eval (.inl hs)).trans ok.es
      have z3 := ha3.sz
      refine wpAny_all (rs := [0]) (by kernel_rfl) (by simp) fun i hi => ?_
      obtain rfl : i = 0 := by simpa using hi
      refine wpOp_run (o := pu0 s x d f po) (v := v) (w' := Wc.alloc (.cells (prC p).toArray 40)) rfl rfl ?_ ?_
      · have c1 : (Wc.alloc (.cells (prC p).toArray 40)).cell? ⟨bl, 0, none⟩ = some v := ok.cell (hn.alloc _)
        show (execOp (a.put (some (d + 3)) _).eval (pu0 s x d f po)).run Try.prog _ = _
        simp only [pu0, execOp, es3]
        simp [go_sem, c1]
      · exact push_tail4 ok hn (ha3.put _ (by omega) (by omega) _) (eval_put (ha3.lt hd (by omega)) _) ((eval_put_ne (by omega) _).trans (eval_put (by omega) _))
theorem push_any (ok : PushOk Q s x d f a0 w B bl H l p xv v) : wpAny Try.prog .any (pushOps s x d f po) Q 6 #[false, false, false, false, false, false] a0 w := by
  have hd := ok.hd
  have hs := ok.hs
  have hx := ok.hx
  have n0 := Nx.refl w
  have c1 := ok.cell n0
  have es := ok.es
  have ex := ok.ex
  refine wpAny_all (rs := [0, 1]) (by kernel_rfl) (by simp) fun i hi => ?_
  have hi2 : i = 0 ∨ i = 1 := by simpa using hi
  rcases hi2 with rfl | rfl
  · refine wpOp_run (o := pu0 s x d f po) (v := v) (w' := w) rfl rfl ?_ ?_
    · simp only [pu0, execOp, es]
      simp [go_sem, c1]
    · have h0 := (PA.refl a0 d).put d (by omega) (by omega) v
      have z0 := h0.sz
      refine wpAny_all (rs := [1]) (by kernel_rfl) (by simp) fun i hi => ?_
      obtain rfl : i = 1 := by simpa using hi
      refine wpOp_run (o := pu1 s x d f po) (v := xv) (w' := w) rfl rfl ?_ ?_
      · show (execOp (a0.put (some d) _).eval (pu1 s x d f po)).run Try.prog _ = _
        simp only [pu1, execOp]
        rw [h0.eval (.inl hx), ex]
        rfl
      · exact push_tail2 ok n0 (h0.put _ (by omega) (by omega) _) ((eval_put_ne (by omega) _).trans (eval_put (by omega) _)) (eval_put (h0.lt hd (by omega)) _)
  · refine wpOp_run (o := pu1 s x d f po) (v := xv) (w' := w) rfl rfl ?_ ?_
    · simp only [pu1, execOp, ex]
      rfl
    · have h1 := (PA.refl a0 d).put (d + 1) (by omega) (by omega) xv
      have z1 := h1.sz
      have e1 : (a0.put (some (d + 1)) xv).eval (.tmp (d + 1)) = xv := eval_put (by omega) _
      refine wpAny_all (rs := [0, 2]) (by kernel_rfl) (by simp) fun i hi => ?_
      have hi2 : i = 0 ∨ i = 2 := by simpa using hi
      rcases hi2 with rfl | rfl
      · refine wpOp_run (o := pu0 s x d f po) (v := v) (w' := w) rfl rfl ?_ ?_
        · show (execOp (a0.put (some (d + 1)) _).eval (pu0 s x d f po)).run Try.prog _ = _
          simp only [pu0, execOp]
          rw [h1.eval (.inl hs), es]
          simp [go_sem, c1]
        · exact push_tail2 ok n0 (h1.put _ (by omega) (by omega) _) (eval_put (h1.lt hd (by omega)) _) ((eval_put_ne (by omega) _).trans e1)
      · refine wpOp_enter (o := pu2 s x d f po) rfl rfl ?_ (ok.hf w n0) ?_
        · show (execOp (a0.put (some (d + 1)) _).eval (pu2 s x d f po)).run Try.prog _ = _
          simp only [pu2, execOp, resolve, List.map_toArray, List.map_cons, List.map_nil, e1, eval_func]
          simp [invoke, go_sem, ok.he]
        · rintro e W' ⟨rfl, n'⟩
          exact ⟨_, rfl, push_late ok n' (h1.put _ (by omega) (by omega) _) (eval_put (h1.lt hd (by omega)) _)⟩
end
theorem any_round {P : Program} {ops : Array Oper} {Q : Exit → Act → World → Prop} {l m id : Nat} {a : Act} {w : World} (hm : P.follows .mixedOrders = true) (hd : noDefer ops) (hq : ¬ LetsOut Q)
    (h : wpAny P .any ops Q ops.size (Array.replicate ops.size false) a w.drew) : (Code.region id ops true).wpIn (Fence.wide.inRound l) m P Q a w :=
  wpIn_region_any hm (wpAny_round hd _ _ _ _ (wpAny_wide hq _ _ _ _ h))
/-- The region, in a round. -/
theorem push_round {Q : Exit → Act → World → Prop} {s x d f lr m id : Nat} {po : String} {a0 : Act} {w : World} {B bl : Nat} {H : Nat → Prop} {l : List Pr} {p : Pr} {xv : Value}
    (he : ∀ args W, (callFunc f args).run Try.prog W = .ok (.enter f args) W) (hs : s < d) (hx : x < d) (hd : d + 5 ≤ a0.tmps.size) (es : a0.eval (.tmp s) = .pointer (some ⟨bl, 0, none⟩)) (ex : a0.eval (.tmp x) = xv)
    (hf : ∀ W, Nx w W → Calls Try.prog f #[xv] W fun e W' => e = .returned (prV p) ∧ Nx W W') (hl : LstAt w B bl H l) (hn : l.length < 1000000000)
    (hQ : ∀ u0 u1 u2 u3 u4 W' H', LstAt W' B bl H' (l ++ [p]) → Mv H w H' W' → Q .normal { tmps := ((((a0.tmps.setIfInBounds d u0).setIfInBounds (d + 1) u1).setIfInBounds (d + 2) u2).setIfInBounds (d + 3) u3).setIfInBounds (d + 4) u4, defers := a0.defers } W') :
    (Code.region id (pushOps s x d f po) true).wpIn (Fence.wide.inRound lr) m Try.prog Q a0 w := by
  obtain ⟨v, hb, hr, hp, hg⟩ := hl
  have nd : Nx w w.drew := Nx.drewN (Nx.refl w) 1
  have ok : PushOk (fun e a W => e = .normal ∧ Q e a W) s x d f a0 w.drew B bl H l p xv v :=
    ⟨he, hs, hx, hd, es, ex, fun W hW => hf W (nd.trans hW), hb.nx nd, row_of_blk hr fun j hj => rfl, hp, hg, hn, fun a W' H' ha hl' hm' => by
      obtain ⟨u0, u1, u2, u3, u4, rfl⟩ := ha.form hd
      exact ⟨rfl, hQ _ _ _ _ _ _ _ hl' ((Mv.of_nx nd (LstAt.cel ⟨v, hb, hr, hp, hg⟩)).trans hm')⟩⟩
  refine Code.wpIn_mono (fun e a W h => h.2) (any_round (by kernel_rfl) (fun i o ho c hc => ?_) ?_ (push_any ok))
  · have : i < 6 := (Array.getElem?_eq_some_iff.1 ho).1
    have : i = 0 ∨ i = 1 ∨ i = 2 ∨ i = 3 ∨ i = 4 ∨ i = 5 := by omega
    rcases this with rfl | rfl | rfl | rfl | rfl | rfl <;> (obtain rfl := (Option.some.inj ho).symm; cases hc)
  · rintro ⟨a, W, h, _⟩
    cases h
end Go.Proofs.Ytekcphpeaoaaaaa

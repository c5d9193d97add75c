/- Regions that draw their order, operation by operation (as XTbFlow, XTbFl: of no program). -/
import Derived.Test.YtlmfjalkgapcgaaDoorGnR
import Derived.Shelf.RegionOpen
import Derived.Sort.BigQuietIn
import Derived.Deep.RegionHeld3
import Derived.Deep.AppendLies
namespace Go.Proofs.YtlmfjalkgapcgaaDoor
open Go.RowKit
set_option linter.unusedVariables false

section
variable {P : Program} {ops : Array Oper} {Q : Exit → Act → World → Prop} {md : Region.Mode}
def noDefer (ops : Array Oper) : Prop := ∀ (i : Nat) (o : Oper), ops[i]? = some o → ∀ c, o.op ≠ .defer c
def noDeferB (ops : Array Oper) : Bool := ops.toList.all fun o => match o.op with
  | .defer _ => false
  | _ => true
theorem noDefer_of (h : noDeferB ops = true) : noDefer ops := fun i o ho c hc => by
  have h1 := List.all_eq_true.1 h o (by rw [← Array.getElem?_toList] at ho; exact List.mem_of_getElem? ho)
  rw [hc] at h1
  cases h1
/-- What is walked in a function's own frame is walked in a round's. -/
theorem wpOp_round {l m i : Nat} {K K' : Act → World → Prop} (hd : noDefer ops) (hK : ∀ a w, K a w → K' a w) {a : Act} {w : World} (h : wpOpIn Fence.wide m P ops Q i K a w) : wpOpIn (Fence.wide.inRound l) m P ops Q i K' a w := by
  have h := wpOpIn_mono hK h
  unfold wpOpIn at *
  cases ho : ops[i]? with
  | none => rw [ho] at h; exact h
  | some o =>
    rw [ho] at h
    simp only at h ⊢
    split
    · rename_i hw
      rw [if_pos hw] at h
      unfold Oper.wpIn at *
      have e : o.semAt (Fence.wide.inRound l).round a.eval = o.semAt Fence.wide.round a.eval := by
        show Oper.semAt (some l) a.eval o = Oper.semAt none a.eval o
        rw [Oper.semAt_some _ _ _ (hd i o ho), Oper.semAt_none]
      rw [e]
      exact h
    · rename_i hw
      rw [if_neg hw] at h
      exact h
theorem wpAny_round {l m : Nat} (hd : noDefer ops) : ∀ (fuel : Nat) (listed : Array Bool) (a : Act) (w : World), wpAnyIn Fence.wide m P md ops Q fuel listed a w → wpAnyIn (Fence.wide.inRound l) m P md ops Q fuel listed a w
  | 0, _, _, _, h => h
  | fuel + 1, _, _, _, h => ⟨h.1, fun i hi => wpOp_round hd (fun a' w' h' => wpAny_round hd fuel _ a' w' h') (h.2 i hi)⟩
/-- .. and what is walked without a fence is walked under the wide one. -/
theorem rowsIn_of_rows {m : Nat} {row : String} {args : Array Value} {w : World} {R : Value → World → Prop} (h : Rows P row args w R) : RowsIn Fence.wide m P row args w R :=
  fun c cs _ => let ⟨v, w', r, s⟩ := h c cs; ⟨v, w', r, stepsIn_wide.2 s⟩
theorem wpOp_wide {m i : Nat} {K K' : Act → World → Prop} (hq : ¬ LetsOut Q) (hK : ∀ a w, K a w → K' a w) {a : Act} {w : World} (h : wpOp P ops Q i K a w) : wpOpIn Fence.wide m P ops Q i K' a w := by
  have h := wpOp_mono hK h
  unfold wpOp at h
  unfold wpOpIn
  cases ho : ops[i]? with
  | none => rw [ho] at h; exact h
  | some o =>
    rw [ho] at h
    simp only at h ⊢
    split
    · rename_i hw
      rw [if_pos hw] at h
      rcases h with h | ⟨_, h⟩
      · unfold Oper.wp at h
        refine ⟨fun _ _ => trivial, ?_⟩
        show Oper.uponIn _ _ _ _ _ _ _ ((Oper.semAt none a.eval o).run P w)
        rw [Oper.semAt_none]
        generalize (execOp a.eval o).run P w = r at *
        cases r with
        | ok x w' =>
          cases x with
          | value v => exact h
          | skip => exact h
          | defer d => exact h
          | enter f args => exact ⟨(fun e => by cases e), callsIn_wide.2 h⟩
          | row r args => exact ⟨(fun e => by cases e), rowsIn_of_rows h⟩
          | _ => exact (h : False).elim
        | halt x w' => cases x <;> first | exact h | exact (h : False).elim
      · exact absurd h hq
    · rename_i hw
      rw [if_neg hw] at h
      exact ⟨fun _ _ => trivial, h⟩
theorem wpAny_wide {m : Nat} (hq : ¬ LetsOut Q) : ∀ (fuel : Nat) (listed : Array Bool) (a : Act) (w : World), wpAny P md ops Q fuel listed a w → wpAnyIn Fence.wide m P md ops Q fuel listed a w
  | 0, _, _, _, h => h
  | fuel + 1, _, _, _, h => ⟨h.1, fun i hi => wpOp_wide hq (fun a' w' h' => wpAny_wide hq fuel _ a' w' h') (h.2 i hi)⟩
/-- A region that draws its order, in a round, with a condition that is kept throughout. -/
theorem region_held {l m id : Nat} {S : World → Prop} {a : Act} {w : World} (hm : P.follows .mixedOrders = true) (hd : noDefer ops) (hq : ¬ LetsOut Q) (hS : S w.drew)
    (h : S w.drew → wpAnyH P .any ops Q S ops.size (Array.replicate ops.size false) a w.drew) : (Code.region id ops true).wpIn (Fence.wide.inRound l) m P Q a w :=
  wpIn_region_any hm (wpAny_round hd _ _ _ _ (wpAny_wide hq _ _ _ _ (wpAny_of_held _ _ _ _ (h hS))))
/-- A region that draws its order and only reads, in a round. -/
theorem region_quiet {l m id : Nat} {a : Act} {w : World} {os : List Oper} (hm : P.follows .mixedOrders = true) (hd : noDefer os.toArray) (hB : Region.lexB .any os.toArray = true)
    (h : wpQuietIn Fence.wide m P os.toArray (fun w' => ∃ n, w' = w.drewN n) (fun a' => ∀ w', (∃ n, w' = w.drewN n) → Q .normal a' w') os a) : (Code.region id os.toArray true).wpIn (Fence.wide.inRound l) m P Q a w := by
  have hB2 := hB
  simp only [Region.lexB, Bool.and_eq_true] at hB2
  refine wpIn_region_any hm (wpAny_round hd _ _ _ _ (wpAnyIn_of_quiet (C := fun w' => ∃ n, w' = w.drewN n) (Q := fun a' => ∀ w', (∃ n, w' = w.drewN n) → Q .normal a' w') rfl (fun _ w' hw' h => h w' hw') _ _ _ _ ⟨1, rfl⟩ ?_))
  have := wpAnyQIn_lex (F := Fence.wide) (n := m) (C := fun w' => ∃ n, w' = w.drewN n) (md := .any) hB2.1 os 0 (Array.replicate os.toArray.size false) a (by simp) (by simpa using hB2.2) h
  simpa using this
end

/-- But for five slots from d on. -/
structure PA (a0 a : Act) (d : Nat) : Prop where
  df : a.defers = a0.defers
  sz : a.tmps.size = a0.tmps.size
  ot : ∀ i, i < d ∨ d + 5 ≤ i → a.tmps[i]? = a0.tmps[i]?
theorem PA.refl (a : Act) (d : Nat) : PA a a d := ⟨rfl, rfl, fun _ _ => rfl⟩
theorem PA.put {a0 a : Act} {d : Nat} (h : PA a0 a d) (j : Nat) (h1 : d ≤ j) (h2 : j < d + 5) (v : Value) : PA a0 (a.put (some j) v) d :=
  ⟨h.df, by show (a.tmps.setIfInBounds j v).size = _; rw [Array.size_setIfInBounds]; exact h.sz, fun i hi => by
    show (a.tmps.setIfInBounds j v)[i]? = _
    rw [Array.getElem?_setIfInBounds_ne (by omega)]
    exact h.ot i hi⟩
theorem PA.none {a0 a : Act} {d : Nat} (h : PA a0 a d) (v : Value) : PA a0 (a.put none v) d := h
theorem eval_put {a : Act} {j : Nat} (h : j < a.tmps.size) (v : Value) : (a.put (some j) v).eval (.tmp j) = v := by
  show (a.tmps.setIfInBounds j v).getD j undef = v
  rw [Array.getD_eq_getD_getElem?, Array.getElem?_setIfInBounds_self_of_lt h]; rfl
theorem eval_put_ne {a : Act} {i j : Nat} (h : j ≠ i) (v : Value) : (a.put (some j) v).eval (.tmp i) = a.eval (.tmp i) := by
  show (a.tmps.setIfInBounds j v).getD i undef = a.tmps.getD i undef
  rw [Array.getD_eq_getD_getElem?, Array.getElem?_setIfInBounds_ne h, Array.getD_eq_getD_getElem?]
theorem PA.eval {a0 a : Act} {d : Nat} (h : PA a0 a d) {i : Nat} (hi : i < d ∨ d + 5 ≤ i) : a.eval (.tmp i) = a0.eval (.tmp i) := by
  show a.tmps.getD i undef = a0.tmps.getD i undef
  rw [Array.getD_eq_getD_getElem?, Array.getD_eq_getD_getElem?, h.ot i hi]
theorem PA.lt {a0 a : Act} {d : Nat} (h : PA a0 a d) (hd : d + 5 ≤ a0.tmps.size) {j : Nat} (hj : j < d + 5) : j < a.tmps.size := by have := h.sz; omega
theorem eval_func (a : Act) (f : FuncId) : a.eval (.func f) = .func (.func f) #[] #[] := rfl
theorem PA.form {a0 a : Act} {d : Nat} (h : PA a0 a d) (hd : d + 5 ≤ a0.tmps.size) : ∃ u0 u1 u2 u3 u4, a = { tmps := ((((a0.tmps.setIfInBounds d u0).setIfInBounds (d + 1) u1).setIfInBounds (d + 2) u2).setIfInBounds (d + 3) u3).setIfInBounds (d + 4) u4, defers := a0.defers } := by
  refine ⟨a.tmps.getD d undef, a.tmps.getD (d + 1) undef, a.tmps.getD (d + 2) undef, a.tmps.getD (d + 3) undef, a.tmps.getD (d + 4) undef, ?_⟩
  obtain ⟨t, df⟩ := a
  have e := h.df
  simp only at e
  subst e
  congr 1
  apply Array.ext_getElem?
  intro i
  have hs : t.size = a0.tmps.size := h.sz
  by_cases hi : i < d ∨ d + 5 ≤ i
  · rw [h.ot i hi]
    simp only [Array.getElem?_setIfInBounds]
    rw [if_neg (by omega), if_neg (by omega), if_neg (by omega), if_neg (by omega), if_neg (by omega)]
  · have : i = d ∨ i = d + 1 ∨ i = d + 2 ∨ i = d + 3 ∨ i = d + 4 := by omega
    rcases this with rfl | rfl | rfl | rfl | rfl <;> simp [Array.getElem?_setIfInBounds] <;> (first | omega | skip) <;> (rw [Array.getElem?_eq_getElem (by omega)]; simp) <;> omega

section
variable {P : Program} {ops : Array Oper} {Q : Exit → Act → World → Prop} {md : Region.Mode}
theorem wpOp_run {i : Nat} {o : Oper} {K : Act → World → Prop} {a : Act} {w w' : World} {v : Value} (ho : ops[i]? = some o) (hg : o.guard = none) (h : (execOp a.eval o).run P w = .ok (.value v) w') (hK : K (a.put o.dst v) w') : wpOp P ops Q i K a w := by
  refine wpOp_step ho fun K' hK' => ?_
  rw [if_pos (by simp [Region.wanted, hg])]
  show o.upon P a K' Q ((execOp a.eval o).run P w)
  rw [h]
  exact hK' _ _ hK
theorem wpOp_skip {i : Nat} {o : Oper} {K : Act → World → Prop} {a : Act} {w w' : World} (ho : ops[i]? = some o) (hg : o.guard = none) (h : (execOp a.eval o).run P w = .ok .skip w') (hK : K (a.put o.dst undef) w') : wpOp P ops Q i K a w := by
  refine wpOp_step ho fun K' hK' => ?_
  rw [if_pos (by simp [Region.wanted, hg])]
  show o.upon P a K' Q ((execOp a.eval o).run P w)
  rw [h]
  exact hK' _ _ hK
theorem wpOp_enter {i : Nat} {o : Oper} {K : Act → World → Prop} {a : Act} {w : World} {f : FuncId} {args : Array Value} {R : Ending → World → Prop} (ho : ops[i]? = some o) (hg : o.guard = none) (h : (execOp a.eval o).run P w = .ok (.enter f args) w)
    (hc : Calls P f args w R) (hR : ∀ e w', R e w' → ∃ v, e = .returned v ∧ K (a.put o.dst v) w') : wpOp P ops Q i K a w := by
  refine wpOp_step ho fun K' hK' => ?_
  rw [if_pos (by simp [Region.wanted, hg])]
  show o.upon P a K' Q ((execOp a.eval o).run P w)
  rw [h, Oper.upon_enter]
  refine hc.mono fun e w' hr => ?_
  obtain ⟨v, rfl, hk⟩ := hR e w' hr
  exact hK' _ _ hk
end

theorem any_round {P : Program} {ops : Array Oper} {Q : Exit → Act → World → Prop} {l m id : Nat} {a : Act} {w : World} (hm : P.follows .mixedOrders = true) (hd : noDefer ops) (hq : ¬ LetsOut Q)
    (h : wpAny P .any ops Q ops.size (Array.replicate ops.size false) a w.drew) : (Code.region id ops true).wpIn (Fence.wide.inRound l) m P Q a w :=
  wpIn_region_any hm (wpAny_round hd _ _ _ _ (wpAny_wide hq _ _ _ _ h))

section
variable {P : Program} {ops : Array Oper} {Q : Exit → Act → World → Prop} {md : Region.Mode}
/-- Edges lead to what stands ahead. -/
def ordB (ops : Array Oper) : Bool := (List.range ops.size).all fun i => ((ops[i]?).map fun o => o.after.all fun e => !Region.binds .any e || decide (e.on < i)).getD true
theorem ordB_spec (h : ordB ops = true) {i : Nat} {o : Oper} (ho : ops[i]? = some o) : ∀ e ∈ o.after, Region.binds .any e = true → e.on < i := by
  have hi : i < ops.size := (Array.getElem?_eq_some_iff.1 ho).1
  have h1 := List.all_eq_true.1 h i (List.mem_range.2 hi)
  rw [ho] at h1
  simp only [Option.map_some, Option.getD_some] at h1
  intro e he hb
  have h2 := (Array.all_eq_true'.1 h1) e he
  rw [hb] at h2
  simpa using h2
theorem all_listed (h : ordB ops = true) {l : Array Bool} (hl : l.size = ops.size) (hr : Region.ready .any ops l = []) : ∀ i, i < ops.size → l.getD i true = true := by
  intro i
  induction i using Nat.strongRecOn with
  | ind i ih =>
    intro hi
    apply Classical.byContradiction
    intro hn
    have hf : l.getD i true = false := by simpa using hn
    have hm : i ∈ Region.ready .any ops l := by
      rw [mem_ready]
      refine ⟨hf, ops[i], Array.getElem?_eq_getElem hi, fun e he hb => ?_⟩
      have h1 := ordB_spec h (Array.getElem?_eq_getElem hi) e he hb
      have h2 := ih e.on h1 (by omega)
      have hlt : e.on < l.size := by omega
      rw [Array.getD_eq_getD_getElem?, Array.getElem?_eq_getElem hlt] at h2 ⊢
      exact h2
    rw [hr] at hm
    cases hm
def left (l : Array Bool) : Nat := l.toList.count false
theorem left_set : ∀ (xs : List Bool) (i : Nat), xs[i]? = some false → (xs.set i true).count false + 1 = xs.count false
  | [], i, h => by simp at h
  | x :: xs, 0, h => by
    obtain rfl : x = false := by simpa using h
    simp
  | x :: xs, i + 1, h => by
    have ih := left_set xs i (by simpa using h)
    rw [List.set_cons_succ, List.count_cons, List.count_cons]
    omega
theorem left_zero {xs : List Bool} (h : xs.count false = 0) : ∀ i (hi : i < xs.length), xs[i] = true := fun i hi => by
  have h1 : false ∉ xs := List.count_eq_zero.1 h
  cases hx : xs[i] with
  | true => rfl
  | false => exact absurd (hx ▸ List.getElem_mem hi) h1
theorem wpAny_flow (Good : Array Bool → Act → World → Prop) (hsz : ∀ l a W, Good l a W → l.size = ops.size)
    (step : ∀ l a W i o, Good l a W → ops[i]? = some o → l.getD i true = false → (∀ e ∈ o.after, Region.binds md e = true → l.getD e.on false = true) → wpOp P ops Q i (Good (l.setIfInBounds i true)) a W)
    (fin : ∀ l a W, Good l a W → Region.ready md ops l = [] → Q .normal a W) :
    ∀ (fuel : Nat) (l : Array Bool) (a : Act) (W : World), Good l a W → left l ≤ fuel → wpAny P md ops Q fuel l a W
  | 0, l, a, W, hg, hl => by
    have h0 : Region.ready md ops l = [] := by
      rw [List.eq_nil_iff_forall_not_mem]
      intro i hi
      obtain ⟨h1, o, ho, _⟩ := mem_ready.1 hi
      have hlt : i < l.size := by rw [hsz l a W hg]; exact (Array.getElem?_eq_some_iff.1 ho).1
      have h2 := left_zero (xs := l.toList) (by unfold left at hl; omega) i (by simpa using hlt)
      rw [Array.getD_eq_getD_getElem?, Array.getElem?_eq_getElem hlt] at h1
      rw [Array.getElem_toList] at h2
      rw [h2] at h1
      cases h1
    exact ⟨h0, fin l a W hg h0⟩
  | fuel + 1, l, a, W, hg, hl => by
    refine ⟨fun h0 => fin l a W hg h0, fun i hi => ?_⟩
    obtain ⟨h1, o, ho, hd⟩ := mem_ready.1 hi
    refine wpOp_mono (fun a' W' hg' => wpAny_flow Good hsz step fin fuel _ a' W' hg' ?_) (step l a W i o hg ho h1 hd)
    have hlt : i < l.size := by rw [hsz l a W hg]; exact (Array.getElem?_eq_some_iff.1 ho).1
    rw [Array.getD_eq_getD_getElem?, Array.getElem?_eq_getElem hlt] at h1
    have h2 := left_set l.toList i (by rw [Array.getElem?_toList, Array.getElem?_eq_getElem hlt]; exact congrArg some h1)
    unfold left at *
    rw [Array.toList_setIfInBounds]
    omega
/-- A region that draws its order, outside a round. -/
theorem region_flow {id : Nat} {a0 : Act} {w : World} (hm : P.follows .mixedOrders = true) (ho : ordB ops = true) (Good : Array Bool → Act → World → Prop) (hsz : ∀ l a W, Good l a W → l.size = ops.size)
    (h0 : Good (Array.replicate ops.size false) a0 w.drew)
    (step : ∀ l a W i o, Good l a W → ops[i]? = some o → l.getD i true = false → (∀ e ∈ o.after, Region.binds .any e = true → l.getD e.on false = true) → wpOp P ops Q i (Good (l.setIfInBounds i true)) a W)
    (fin : ∀ l a W, Good l a W → (∀ i, i < ops.size → l.getD i true = true) → Q .normal a W) : (Code.region id ops true).wp P Q a0 w :=
  wp_region_any hm (wpAny_flow Good hsz step (fun l a W hg hr => fin l a W hg (all_listed ho (hsz l a W hg) hr)) _ _ _ _ h0 (by
    unfold left
    refine Nat.le_trans List.count_le_length ?_
    simp))
/-- .. and in a round. -/
theorem region_flow_in {l m id : Nat} {a0 : Act} {w : World} (hm : P.follows .mixedOrders = true) (hd : noDefer ops) (hq : ¬ LetsOut Q) (ho : ordB ops = true) (Good : Array Bool → Act → World → Prop) (hsz : ∀ l a W, Good l a W → l.size = ops.size)
    (h0 : Good (Array.replicate ops.size false) a0 w.drew)
    (step : ∀ l a W i o, Good l a W → ops[i]? = some o → l.getD i true = false → (∀ e ∈ o.after, Region.binds .any e = true → l.getD e.on false = true) → wpOp P ops Q i (Good (l.setIfInBounds i true)) a W)
    (fin : ∀ l a W, Good l a W → (∀ i, i < ops.size → l.getD i true = true) → Q .normal a W) : (Code.region id ops true).wpIn (Fence.wide.inRound l) m P Q a0 w :=
  any_round hm hd hq (wpAny_flow Good hsz step (fun l a W hg hr => fin l a W hg (all_listed ho (hsz l a W hg) hr)) _ _ _ _ h0 (by
    unfold left
    refine Nat.le_trans List.count_le_length ?_
    simp))
end

/-- What an operation may have given; it holds in later worlds too. l: what was carried out. -/
structure Kd where
  p : Array Bool → Value → World → Prop
  st : ∀ {l : Array Bool} {i : Nat} {u : Value} {W W' : World}, Nx W W' → p l u W → p (l.setIfInBounds i true) u W'
theorem getD_set_self {l : Array Bool} {i : Nat} (h : i < l.size) (d : Bool) : (l.setIfInBounds i true).getD i d = true := by
  rw [Array.getD_eq_getD_getElem?, Array.getElem?_setIfInBounds_self_of_lt h]; rfl
theorem getD_set_other {l : Array Bool} {i j : Nat} (h : i ≠ j) (d : Bool) : (l.setIfInBounds i true).getD j d = l.getD j d := by
  rw [Array.getD_eq_getD_getElem?, Array.getElem?_setIfInBounds_ne h, Array.getD_eq_getD_getElem?]
theorem getD_set_was {l : Array Bool} {i j : Nat} (h : (l.setIfInBounds i true).getD j false = false) : l.getD j false = false := by
  by_cases e : i = j
  · subst e
    by_cases hi : i < l.size
    · rw [getD_set_self hi] at h; cases h
    · rw [Array.getD_eq_getD_getElem?, Array.getElem?_eq_none (by omega)]; rfl
  · rwa [getD_set_other e] at h
theorem getD_set_on {l : Array Bool} {i j : Nat} (h : l.getD j false = true) : (l.setIfInBounds i true).getD j false = true := by
  cases e : (l.setIfInBounds i true).getD j false with
  | true => rfl
  | false => rw [getD_set_was e] at h; cases h
theorem getD_both {l : Array Bool} {i : Nat} (h : i < l.size) (d d' : Bool) : l.getD i d = l.getD i d' := by
  rw [Array.getD_eq_getD_getElem?, Array.getD_eq_getD_getElem?, Array.getElem?_eq_getElem h]; rfl
namespace Kd
def any : Kd := ⟨fun _ _ _ => True, fun _ _ => trivial⟩
/-- This value. -/
def eq (c : Value) : Kd := ⟨fun _ v _ => v = c, fun _ h => h⟩
/-- A value of which something holds, also later. -/
def of (q : Value → World → Prop) (h : ∀ {v W W'}, q v W → Nx W W' → q v W') : Kd := ⟨fun _ v W => q v W, fun k h' => h h' k⟩
/-- .. until operation k. -/
def till (k : Nat) (q : Value → World → Prop) (h : ∀ {v W W'}, q v W → Nx W W' → q v W') : Kd := ⟨fun l v W => l.getD k false = false → q v W, fun kx h' e => h (h' (getD_set_was e)) kx⟩
end Kd
def kd (K : List Kd) (i : Nat) : Kd := (K[i]?).getD Kd.any

/-- No two operations write one slot. -/
def dstB (ops : Array Oper) : Bool := (List.range ops.size).all fun i => (List.range ops.size).all fun j => decide (i = j) || match (ops[i]?).bind (·.dst), (ops[j]?).bind (·.dst) with
  | some s, some t => decide (s ≠ t)
  | _, _ => true
theorem dstB_spec {ops : Array Oper} (h : dstB ops = true) {i j : Nat} {o p : Oper} {s : Nat} (ho : ops[i]? = some o) (hp : ops[j]? = some p) (h1 : o.dst = some s) (h2 : p.dst = some s) : i = j := by
  have hi : i < ops.size := (Array.getElem?_eq_some_iff.1 ho).1
  have hj : j < ops.size := (Array.getElem?_eq_some_iff.1 hp).1
  have a1 := List.all_eq_true.1 (List.all_eq_true.1 h i (List.mem_range.2 hi)) j (List.mem_range.2 hj)
  rw [ho, hp] at a1
  simp only [Option.bind_some, h1, h2] at a1
  simpa using a1
/-- No operation writes this slot. -/
def oldB (ops : Array Oper) (s : Nat) : Bool := ops.toList.all fun o => match o.dst with
  | some t => !(t == s)
  | none => true
theorem oldB_spec {ops : Array Oper} {s : Nat} (h : oldB ops s = true) {i : Nat} {o : Oper} (ho : ops[i]? = some o) : o.dst ≠ some s := fun e => by
  have h1 := List.all_eq_true.1 h o (by rw [← Array.getElem?_toList] at ho; exact List.mem_of_getElem? ho)
  rw [e] at h1
  simp at h1
/-- The slots that are written. -/
def dsts (ops : Array Oper) : List Nat := ops.toList.filterMap (·.dst)
/-- What is ahead of operation o was carried out. -/
def Dn (l : Array Bool) (o : Oper) : Prop := ∀ e ∈ o.after, Region.binds .any e = true → l.getD e.on false = true
def hasE (o : Oper) (k : Nat) : Bool := o.after.toList.any fun e => e.on == k && Region.binds .any e
theorem Dn.at {l : Array Bool} {o : Oper} (h : Dn l o) (k : Nat) (hk : hasE o k = true) : l.getD k false = true := by
  obtain ⟨e, he, h1⟩ := List.any_eq_true.1 hk
  rw [Bool.and_eq_true, beq_iff_eq] at h1
  rw [← h1.1]
  exact h e (Array.mem_toList_iff.1 he) h1.2
/-- What stands there in the midst of the region. -/
structure Fl (ops : Array Oper) (a0 : Act) (K : List Kd) (Inv : Array Bool → World → Prop) (l : Array Bool) (a : Act) (W : World) : Prop where
  sz : l.size = ops.size
  df : a.defers = a0.defers
  ts : a.tmps.size = a0.tmps.size
  ot : ∀ s, (∀ i o, ops[i]? = some o → o.dst = some s → l.getD i true = false) → a.tmps[s]? = a0.tmps[s]?
  vals : ∀ i o s, ops[i]? = some o → o.dst = some s → l.getD i true = true → ∃ v, a.tmps[s]? = some v ∧ (kd K i).p l v W
  cl : ∀ i o, ops[i]? = some o → l.getD i false = true → Dn l o
  inv : Inv l W
section
variable {P : Program} {ops : Array Oper} {Q : Exit → Act → World → Prop} {a0 : Act} {K : List Kd} {Inv : Array Bool → World → Prop} {l : Array Bool} {a : Act} {W : World}
theorem replicate_off {n i : Nat} : (Array.replicate n false).getD i false = false := by
  rw [Array.getD_eq_getD_getElem?, Array.getElem?_replicate]; split <;> rfl
theorem Fl.start (h : Inv (Array.replicate ops.size false) W) : Fl ops a0 K Inv (Array.replicate ops.size false) a0 W :=
  ⟨by simp, rfl, rfl, fun _ _ => rfl, (fun i o s ho _ hl => by
    have hi : i < ops.size := (Array.getElem?_eq_some_iff.1 ho).1
    rw [Array.getD_eq_getD_getElem?, Array.getElem?_replicate, if_pos hi] at hl
    exact absurd hl (by decide)), (fun i o ho hl => by rw [replicate_off] at hl; cases hl), h⟩
theorem Fl.lt (h : Fl ops a0 K Inv l a W) {i : Nat} {o : Oper} (ho : ops[i]? = some o) : i < l.size := by rw [h.sz]; exact (Array.getElem?_eq_some_iff.1 ho).1
theorem Fl.cl_set (h : Fl ops a0 K Inv l a W) {i : Nat} {o : Oper} (ho : ops[i]? = some o) (hd : Dn l o) : ∀ j p, ops[j]? = some p → (l.setIfInBounds i true).getD j false = true → Dn (l.setIfInBounds i true) p := fun j p hp hl e he hb => by
  by_cases hij : i = j
  · subst hij
    rw [ho] at hp
    cases hp
    exact getD_set_on (hd e he hb)
  · rw [getD_set_other hij] at hl
    exact getD_set_on (h.cl j p hp hl e he hb)
/-- A slot was written. -/
theorem Fl.put (h : Fl ops a0 K Inv l a W) (hu : dstB ops = true) {i s : Nat} {o : Oper} (ho : ops[i]? = some o) (hd : Dn l o) (hs : o.dst = some s) (hlt : s < a0.tmps.size) {v : Value} {W' : World} (hv : (kd K i).p (l.setIfInBounds i true) v W') (hst : ∀ j u, i ≠ j → l.getD j false = true → (kd K j).p l u W → (kd K j).p (l.setIfInBounds i true) u W') (hi : Inv (l.setIfInBounds i true) W') :
    Fl ops a0 K Inv (l.setIfInBounds i true) (a.put o.dst v) W' := by
  have hil : i < l.size := h.lt ho
  have hcl := h.cl_set ho hd
  rw [hs]
  refine ⟨by rw [Array.size_setIfInBounds]; exact h.sz, h.df, by show (a.tmps.setIfInBounds s v).size = _; rw [Array.size_setIfInBounds]; exact h.ts, fun t ht => ?_, fun j p t hp ht hl => ?_, hcl, hi⟩
  · have hne : s ≠ t := fun e => by
      subst e
      have := ht i o ho hs
      rw [getD_set_self hil] at this
      cases this
    show (a.tmps.setIfInBounds s v)[t]? = _
    rw [Array.getElem?_setIfInBounds_ne hne]
    exact h.ot t fun j p hp hd => by
      have hji : i ≠ j := fun e => by
        subst e
        rw [ho] at hp
        cases hp
        rw [hs] at hd
        exact hne (Option.some.inj hd)
      have := ht j p hp hd
      rwa [getD_set_other hji] at this
  · show ∃ u, (a.tmps.setIfInBounds s v)[t]? = some u ∧ _
    by_cases hji : i = j
    · subst hji
      rw [ho] at hp
      cases hp
      rw [hs] at ht
      cases ht
      exact ⟨v, Array.getElem?_setIfInBounds_self_of_lt (by rw [h.ts]; exact hlt), hv⟩
    · have hne : s ≠ t := fun e => hji (dstB_spec hu ho hp hs (by rw [ht, e]))
      rw [getD_set_other hji] at hl
      obtain ⟨u, h1, h2⟩ := h.vals j p t hp ht hl
      exact ⟨u, by rw [Array.getElem?_setIfInBounds_ne hne]; exact h1, hst j u hji (by rw [← hl]; exact getD_both (h.lt hp) _ _) h2⟩
/-- Nothing was written into a slot. -/
theorem Fl.none (h : Fl ops a0 K Inv l a W) {i : Nat} {o : Oper} (ho : ops[i]? = some o) (hd : Dn l o) (hs : o.dst = none) {v : Value} {W' : World} (hst : ∀ j u, i ≠ j → l.getD j false = true → (kd K j).p l u W → (kd K j).p (l.setIfInBounds i true) u W') (hi : Inv (l.setIfInBounds i true) W') :
    Fl ops a0 K Inv (l.setIfInBounds i true) (a.put o.dst v) W' := by
  have hcl := h.cl_set ho hd
  rw [hs]
  refine ⟨by rw [Array.size_setIfInBounds]; exact h.sz, h.df, h.ts, fun t ht => h.ot t fun j p hp hd => ?_, fun j p t hp ht hl => ?_, hcl, hi⟩
  · have hji : i ≠ j := fun e => by
      subst e
      rw [ho] at hp
      cases hp
      rw [hs] at hd
      cases hd
    have := ht j p hp hd
    rwa [getD_set_other hji] at this
  · have hji : i ≠ j := fun e => by
      subst e
      rw [ho] at hp
      cases hp
      rw [hs] at ht
      cases ht
    rw [getD_set_other hji] at hl
    obtain ⟨u, h1, h2⟩ := h.vals j p t hp ht hl
    exact ⟨u, h1, hst j u hji (by rw [← hl]; exact getD_both (h.lt hp) _ _) h2⟩
/-- The value in a slot of what was carried out. -/
theorem Fl.slot (h : Fl ops a0 K Inv l a W) {i s : Nat} {o : Oper} (ho : ops[i]? = some o) (hs : o.dst = some s) (hl : l.getD i false = true) : ∃ v, a.tmps[s]? = some v ∧ (kd K i).p l v W :=
  h.vals i o s ho hs (by rw [getD_both (h.lt ho) true false]; exact hl)
theorem Fl.get (h : Fl ops a0 K Inv l a W) {i s : Nat} {o : Oper} (ho : ops[i]? = some o) (hs : o.dst = some s) (hl : l.getD i false = true) : ∃ v, a.eval (.tmp s) = v ∧ (kd K i).p l v W := by
  obtain ⟨v, h1, h2⟩ := h.slot ho hs hl
  exact ⟨v, by show a.tmps.getD s undef = v; rw [Array.getD_eq_getD_getElem?, h1]; rfl, h2⟩
/-- A slot that the region does not write. -/
theorem Fl.old (h : Fl ops a0 K Inv l a W) {s : Nat} (hs : oldB ops s = true) : a.eval (.tmp s) = a0.eval (.tmp s) := by
  show a.tmps.getD s undef = a0.tmps.getD s undef
  rw [Array.getD_eq_getD_getElem?, Array.getD_eq_getD_getElem?, h.ot s fun i o ho hd => absurd hd (oldB_spec hs ho)]
/-- What comes behind an operation that was not carried out was not either. -/
theorem Fl.off (h : Fl ops a0 K Inv l a W) {j k : Nat} {o : Oper} (hl : l.getD k false = false) (ho : ops[j]? = some o) (he : hasE o k = true) : l.getD j false = false := by
  cases e : l.getD j false with
  | false => rfl
  | true => have := (h.cl j o ho e).at k he; rw [hl] at this; cases this
theorem Fl.on (h : Fl ops a0 K Inv l a W) {j k : Nat} {o : Oper} (hl : l.getD j false = true) (ho : ops[j]? = some o) (he : hasE o k = true) : l.getD k false = true := (h.cl j o ho hl).at k he
/-- The slots, as the region leaves them. -/
theorem form_of (t t0 : Array Value) (hs : t.size = t0.size) : ∀ (ds : List Nat), (∀ s, s ∉ ds → t[s]? = t0[s]?) → t = ds.foldl (fun acc d => acc.setIfInBounds d (t.getD d undef)) t0 := fun ds h => by
  apply Array.ext_getElem?
  intro i
  have key : ∀ (ds : List Nat) (t1 : Array Value), t1.size = t.size → (ds.foldl (fun acc d => acc.setIfInBounds d (t.getD d undef)) t1)[i]? = if i ∈ ds then t[i]? else t1[i]? := by
    intro ds
    induction ds with
    | nil => intro t1 _; simp
    | cons d ds ih =>
      intro t1 h1
      rw [List.foldl_cons, ih _ (by rw [Array.size_setIfInBounds]; exact h1)]
      by_cases hi : i ∈ ds
      · rw [if_pos hi, if_pos (List.mem_cons_of_mem _ hi)]
      · rw [if_neg hi]
        by_cases hd : i = d
        · subst hd
          rw [if_pos List.mem_cons_self]
          by_cases hlt : i < t1.size
          · rw [Array.getElem?_setIfInBounds_self_of_lt hlt, Array.getD_eq_getD_getElem?, Array.getElem?_eq_getElem (by omega)]; rfl
          · rw [Array.getElem?_eq_none (by rw [Array.size_setIfInBounds]; omega), Array.getElem?_eq_none (by omega)]
        · rw [Array.getElem?_setIfInBounds_ne (fun e => hd e.symm), if_neg (fun e => by rcases List.mem_cons.1 e with e | e; exact hd e; exact hi e)]
  rw [key ds t0 hs.symm]
  split
  · rfl
  · rename_i hn; exact h i hn
theorem mem_dsts {ops : Array Oper} {i s : Nat} {o : Oper} (ho : ops[i]? = some o) (hs : o.dst = some s) : s ∈ dsts ops := by
  rw [← Array.getElem?_toList] at ho
  exact List.mem_filterMap.2 ⟨o, List.mem_of_getElem? ho, hs⟩
theorem Fl.form (h : Fl ops a0 K Inv l a W) : a = { tmps := (dsts ops).foldl (fun acc d => acc.setIfInBounds d (a.tmps.getD d undef)) a0.tmps, defers := a0.defers } := by
  have h1 := form_of a.tmps a0.tmps h.ts (dsts ops) fun s hs => h.ot s fun i o ho hd => absurd (mem_dsts ho hd) hs
  have h2 := h.df
  obtain ⟨t, d⟩ := a
  simp only at h2 h1
  subst h2
  rw [← h1]
/-! ### Steps -/
theorem wpOp_run_w {i : Nat} {o : Oper} {K : Act → World → Prop} {a : Act} {w w' : World} {v : Value} (ho : ops[i]? = some o) (hg : Region.wanted o (yielded ops a.tmps) = true) (h : (execOp a.eval o).run P w = .ok (.value v) w') (hK : K (a.put o.dst v) w') : wpOp P ops Q i K a w := by
  refine wpOp_step ho fun K' hK' => ?_
  rw [if_pos hg]
  show o.upon P a K' Q ((execOp a.eval o).run P w)
  rw [h]
  exact hK' _ _ hK
theorem wpOp_skip_w {i : Nat} {o : Oper} {K : Act → World → Prop} {a : Act} {w w' : World} (ho : ops[i]? = some o) (hg : Region.wanted o (yielded ops a.tmps) = true) (h : (execOp a.eval o).run P w = .ok .skip w') (hK : K (a.put o.dst undef) w') : wpOp P ops Q i K a w := by
  refine wpOp_step ho fun K' hK' => ?_
  rw [if_pos hg]
  show o.upon P a K' Q ((execOp a.eval o).run P w)
  rw [h]
  exact hK' _ _ hK
theorem wpOp_enter_w {i : Nat} {o : Oper} {K : Act → World → Prop} {a : Act} {w : World} {f : FuncId} {args : Array Value} {R : Ending → World → Prop} (ho : ops[i]? = some o) (hg : Region.wanted o (yielded ops a.tmps) = true) (h : (execOp a.eval o).run P w = .ok (.enter f args) w)
    (hc : Calls P f args w R) (hR : ∀ e w', R e w' → ∃ v, e = .returned v ∧ K (a.put o.dst v) w') : wpOp P ops Q i K a w := by
  refine wpOp_step ho fun K' hK' => ?_
  rw [if_pos hg]
  show o.upon P a K' Q ((execOp a.eval o).run P w)
  rw [h, Oper.upon_enter]
  refine hc.mono fun e w' hr => ?_
  obtain ⟨v, rfl, hk⟩ := hR e w' hr
  exact hK' _ _ hk
/-- What is not wanted gives nothing. -/
theorem wpOp_not {i : Nat} {o : Oper} {K : Act → World → Prop} {a : Act} {w : World} (ho : ops[i]? = some o) (hg : Region.wanted o (yielded ops a.tmps) = false) (hK : K (a.put o.dst undef) w) : wpOp P ops Q i K a w := by
  refine wpOp_step ho fun K' hK' => ?_
  rw [if_neg (by rw [hg]; decide)]
  exact hK' _ _ hK
/-- An operation that is not guarded. -/
theorem want_none {o : Oper} {f : Nat → Option Bool} (h : o.guard = none) : Region.wanted o f = true := by unfold Region.wanted; rw [h]
theorem Fl.yields (h : Fl ops a0 K Inv l a W) {k s : Nat} {o : Oper} (ho : ops[k]? = some o) (hs : o.dst = some s) (hl : l.getD k false = true) {b : Bool} (hb : ∀ v, (kd K k).p l v W → v = .bool b) : yielded ops a.tmps k = some b := by
  obtain ⟨v, h1, h2⟩ := h.slot ho hs hl
  unfold yielded
  rw [ho]
  simp only [Option.bind_some, hs, h1]
  rw [hb v h2]
/-- .. and one that is, where its guard is as it wants it. -/
theorem Fl.want (h : Fl ops a0 K Inv l a W) {k s : Nat} {b : Bool} {o p : Oper} (hg : o.guard = some (k, b)) (ho : ops[k]? = some p) (hs : p.dst = some s) (hl : l.getD k false = true) (hb : ∀ v, (kd K k).p l v W → v = .bool b) : Region.wanted o (yielded ops a.tmps) = true := by
  unfold Region.wanted
  rw [hg]
  simp only
  rw [h.yields ho hs hl hb]
  simp
theorem Fl.unwant (h : Fl ops a0 K Inv l a W) {k s : Nat} {b : Bool} {o p : Oper} (hg : o.guard = some (k, b)) (ho : ops[k]? = some p) (hs : p.dst = some s) (hl : l.getD k false = true) (hb : ∀ v, (kd K k).p l v W → v = .bool (!b)) : Region.wanted o (yielded ops a.tmps) = false := by
  unfold Region.wanted
  rw [hg]
  simp only
  rw [h.yields ho hs hl hb]
  cases b <;> rfl
/-- One operation, whatever was carried out. -/
def Stp (P : Program) (ops : Array Oper) (Q : Exit → Act → World → Prop) (a0 : Act) (K : List Kd) (Inv : Array Bool → World → Prop) (i : Nat) : Prop :=
  ∀ l a W o, Fl ops a0 K Inv l a W → ops[i]? = some o → l.getD i true = false → Dn l o → wpOp P ops Q i (Fl ops a0 K Inv (l.setIfInBounds i true)) a W
theorem kd_nx {j i : Nat} {u : Value} {W W' : World} (h : Nx W W') (k : (kd K j).p l u W) : (kd K j).p (l.setIfInBounds i true) u W' := (kd K j).st h k
theorem stp_val {i s : Nat} {o : Oper} (hu : dstB ops = true) (H : ops[i]? = some o) (hs : o.dst = some s) (hlt : s < a0.tmps.size)
    (hr : ∀ l a W, Fl ops a0 K Inv l a W → l.getD i false = false → Dn l o → Region.wanted o (yielded ops a.tmps) = true ∧ ∃ v W', (execOp a.eval o).run P W = .ok (.value v) W' ∧ (kd K i).p (l.setIfInBounds i true) v W' ∧ Nx W W' ∧ Inv (l.setIfInBounds i true) W') : Stp P ops Q a0 K Inv i := by
  intro l a W o' hF ho hn hd
  rw [H] at ho
  cases ho
  obtain ⟨hg, v, W', h1, h2, h3, h4⟩ := hr l a W hF (by rw [← hn]; exact getD_both (hF.lt H) _ _) hd
  exact wpOp_run_w H hg h1 (hF.put hu H hd hs hlt h2 (fun j u _ _ => kd_nx h3) h4)
/-- .. of which no more is asked than that slots change. -/
theorem stp_call {i s : Nat} {o : Oper} (hu : dstB ops = true) (H : ops[i]? = some o) (hs : o.dst = some s) (hlt : s < a0.tmps.size)
    (hr : ∀ l a W, Fl ops a0 K Inv l a W → l.getD i false = false → Dn l o → Region.wanted o (yielded ops a.tmps) = true ∧ ∃ f args R, (execOp a.eval o).run P W = .ok (.enter f args) W ∧ Calls P f args W R ∧ ∀ e W', R e W' → ∃ v, e = .returned v ∧ (kd K i).p (l.setIfInBounds i true) v W' ∧ Nx W W' ∧ Inv (l.setIfInBounds i true) W') : Stp P ops Q a0 K Inv i := by
  intro l a W o' hF ho hn hd
  rw [H] at ho
  cases ho
  obtain ⟨hg, f, args, R, h1, h2, h3⟩ := hr l a W hF (by rw [← hn]; exact getD_both (hF.lt H) _ _) hd
  refine wpOp_enter_w H hg h1 h2 fun e W' he => ?_
  obtain ⟨v, e1, e2, e3, e4⟩ := h3 e W' he
  exact ⟨v, e1, hF.put hu H hd hs hlt e2 (fun j u _ _ => kd_nx e3) e4⟩
/-- One that is not wanted. -/
theorem stp_not {i s : Nat} {o : Oper} (hu : dstB ops = true) (H : ops[i]? = some o) (hs : o.dst = some s) (hlt : s < a0.tmps.size)
    (hr : ∀ l a W, Fl ops a0 K Inv l a W → l.getD i false = false → Dn l o → Region.wanted o (yielded ops a.tmps) = false ∧ (kd K i).p (l.setIfInBounds i true) undef W ∧ Inv (l.setIfInBounds i true) W) : Stp P ops Q a0 K Inv i := by
  intro l a W o' hF ho hn hd
  rw [H] at ho
  cases ho
  obtain ⟨hg, h1, h2⟩ := hr l a W hF (by rw [← hn]; exact getD_both (hF.lt H) _ _) hd
  exact wpOp_not H hg (hF.put hu H hd hs hlt h1 (fun j u _ _ => kd_nx (Nx.refl W)) h2)
/-- A store. -/
theorem stp_skip {i : Nat} {o : Oper} (H : ops[i]? = some o) (hs : o.dst = none)
    (hr : ∀ l a W, Fl ops a0 K Inv l a W → l.getD i false = false → Dn l o → Region.wanted o (yielded ops a.tmps) = true ∧ ∃ W', (execOp a.eval o).run P W = .ok .skip W' ∧ (∀ j u, i ≠ j → l.getD j false = true → (kd K j).p l u W → (kd K j).p (l.setIfInBounds i true) u W') ∧ Inv (l.setIfInBounds i true) W') : Stp P ops Q a0 K Inv i := by
  intro l a W o' hF ho hn hd
  rw [H] at ho
  cases ho
  obtain ⟨hg, W', h1, h2, h3⟩ := hr l a W hF (by rw [← hn]; exact getD_both (hF.lt H) _ _) hd
  exact wpOp_skip_w H hg h1 (hF.none H hd hs h2 h3)
/-- A value by which old blocks turn. -/
theorem stp_turn {i s : Nat} {o : Oper} (hu : dstB ops = true) (H : ops[i]? = some o) (hs : o.dst = some s) (hlt : s < a0.tmps.size)
    (hr : ∀ l a W, Fl ops a0 K Inv l a W → l.getD i false = false → Dn l o → Region.wanted o (yielded ops a.tmps) = true ∧ ∃ v W', (execOp a.eval o).run P W = .ok (.value v) W' ∧ (kd K i).p (l.setIfInBounds i true) v W' ∧ (∀ j u, i ≠ j → l.getD j false = true → (kd K j).p l u W → (kd K j).p (l.setIfInBounds i true) u W') ∧ Inv (l.setIfInBounds i true) W') : Stp P ops Q a0 K Inv i := by
  intro l a W o' hF ho hn hd
  rw [H] at ho
  cases ho
  obtain ⟨hg, v, W', h1, h2, h3, h4⟩ := hr l a W hF (by rw [← hn]; exact getD_both (hF.lt H) _ _) hd
  exact wpOp_run_w H hg h1 (hF.put hu H hd hs hlt h2 h3 h4)
def Upto (p : Nat → Prop) : Nat → Prop
  | 0 => True
  | n + 1 => Upto p n ∧ p n
theorem Upto.at {p : Nat → Prop} : ∀ {n : Nat}, Upto p n → ∀ i, i < n → p i
  | 0, _, i, h => by omega
  | n + 1, h, i, hi => by
    by_cases e : i = n
    · subst e; exact h.2
    · exact Upto.at h.1 i (by omega)
/-- The region. -/
theorem flows {id : Nat} {w : World} (hm : P.follows .mixedOrders = true) (ho : ordB ops = true) {n : Nat} (hn : ops.size = n) (h0 : Inv (Array.replicate ops.size false) w.drew) (hs : Upto (Stp P ops Q a0 K Inv) n)
    (fin : ∀ l a W, Fl ops a0 K Inv l a W → (∀ i, i < n → l.getD i false = true) → Q .normal a W) : (Code.region id ops true).wp P Q a0 w :=
  region_flow hm ho (Fl ops a0 K Inv) (fun _ _ _ h => h.sz) (Fl.start h0)
    (fun l a W i o hF ho hl hd => hs.at i (by rw [← hn]; exact (Array.getElem?_eq_some_iff.1 ho).1) l a W o hF ho hl hd)
    (fun l a W hF hl => fin l a W hF fun i hi => by rw [← hl i (by omega)]; exact getD_both (by rw [hF.sz]; omega) _ _)
end
/-- The operations of a region. -/
def rops? : Code → Nat → Option (Array Oper)
  | .region i ops _, n => if i = n then some ops else none
  | .seq a b, n => (rops? a n).or (rops? b n)
  | .cond _ a b, n => (rops? a n).or (rops? b n)
  | .block _ a, n => rops? a n
  | .loop a, n => rops? a n
  | .scope a, n => rops? a n
  | .rangeFunc _ _ a b, n => (rops? a n).or (rops? b n)
  | _, _ => none
def rops (f : Func) (n : Nat) : Array Oper := (f.body.bind fun c => rops? c n).getD #[]
theorem eval_const (a : Act) (v : Value) : a.eval (.const v) = v := rfl
theorem run_enter {P : Program} {a : Act} {o : Oper} {f : FuncId} {g : Operand} {xs : Array Operand} {ts : Array TypeId} {vs : Array Value} {W : World} (ho : o.op = .call { callee := .value g, args := xs, argTypes := ts }) (hv : xs.map a.eval = vs) (hg : a.eval g = .func (.func f) #[] #[])
    (he : ∀ args W, (callFunc f args).run P W = .ok (.enter f args) W) : (execOp a.eval o).run P W = .ok (.enter f vs) W := by
  unfold execOp
  simp only [ho, resolve, hg, hv]
  simp [invoke, go_sem, he]
theorem run_len {P : Program} {a : Act} {o : Oper} {x : Operand} {t e : TypeId} {A : Option Addr} {n c : Nat} {W : World} (ho : o.op = .call { callee := .builtin .len, args := #[x], argTypes := #[t] }) (hv : a.eval x = .slice A n c) (ht : P.underlying t = some (.slice e)) :
    (execOp a.eval o).run P W = .ok (.value (.int .i64 (n : Int))) W := by
  unfold execOp
  simp only [ho, resolve, invoke, builtin, List.map_toArray, List.map_cons, List.map_nil, hv]
  simp [go_sem, Builtin.len_, run_underlying ht, Builtin.lenOf]
theorem BlkIs.at0 {w W : World} {g : Nat} {t : TypeId} {v : Value} (h : BlkIs w g t #[v]) (k : Nx w W) : W.cell? ⟨g, 0, none⟩ = some v := by rw [(h.nx k).cell]; rfl
theorem cell_nx {w W : World} {a : Addr} {v : Value} (h : w.cell? a = some v) (k : Nx w W) : W.cell? a = some v := by
  rw [World.cell?_of_block (k.block a.block (World.block_lt_of_cell? w a h))]; exact h
/-- A row of the call's own that an earlier world laid is turned by operation k, an append. -/
structure IvA (k : Nat) (W0 : World) (v : Value) (l : Array Bool) (W : World) : Prop where
  chd : Chd (fun j => v.ownBlock = some j) W0 W
  nx : l.getD k false = false → Nx W0 W
section
variable {k : Nat} {W0 W W' : World} {v : Value} {l : Array Bool}
theorem IvA.start {n : Nat} : IvA k W0 v (Array.replicate n false) W0.drew := ⟨(Nx.refl W0).drew.chd, fun _ => (Nx.refl W0).drew⟩
theorem IvA.step (h : IvA k W0 v l W) (hn : Nx W W') {i : Nat} (hi : i ≠ k) : IvA k W0 v (l.setIfInBounds i true) W' := ⟨h.chd.trans hn.chd, fun e => (h.nx (by rw [getD_set_other hi] at e; exact e)).trans hn⟩
theorem IvA.turn (h : IvA k W0 v l W) (hk : k < l.size) (hg : W.grownBy W' v.ownBlock) : IvA k W0 v (l.setIfInBounds k true) W' := ⟨h.chd.trans (Chd.of_grown hg), fun e => by rw [getD_set_self hk] at e; cases e⟩
end
/-- Strings are put together. -/
theorem S_app (a b : List UInt8) : S a ++ S b = S (a ++ b) := by
  unfold S
  apply ByteArray.ext
  simp
theorem run_addS {a : Act} {W : World} {o : Oper} {x y : Operand} {p q : List UInt8} (ho : o.op = .binOp .add 9 x y 9) (hx : a.eval x = .string (S p)) (hy : a.eval y = .string (S q)) (h : p.length + q.length ≤ 9223372036854775807) :
    (execOp a.eval o).run Tryd.prog W = .ok (.value (.string (S (p ++ q)))) W := by
  unfold execOp
  simp only [ho, hx, hy]
  simp [go_sem, S_size, h, S_app]
end Go.Proofs.YtlmfjalkgapcgaaDoor

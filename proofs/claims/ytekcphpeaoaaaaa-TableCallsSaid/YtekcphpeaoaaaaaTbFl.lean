/- A region that draws its order: what stands in the slots of what was carried out, and what is not written yet. No function of the program is named here. -/
import Derived.Test.YtekcphpeaoaaaaaTbFlow
namespace Go.Proofs.Ytekcphpeaoaaaaa
open Go.RowKit
set_option linter.unusedVariables false

/-- What an operation may have given; it holds in later worlds too. l: what was carried out. -/
structure Kd where
  p : Array Bool → Value → World → Prop
  st : ∀ {l : Array Bool} {i : Nat} {u : Value} {W W' : World}, Nx W W' → p l u W → p (l.setIfInBounds i true) u W'
theorem getD_set_self {l : Array Bool} {i : Nat} (h : i < l.size) (d : Bool) : (l.setIfInBounds i true).getD i d = true := by
  rw [Array.getD_eq_getD_getElem?, Array.getElem?_setIfInBounds_self_of_lt h]; rfl
theorem getD_set_other {l : Array Bool} {i j : Nat} (h : i ≠ j) (d : Bool) : (l.setIfInBounds i true).getD j d = l.getD j d := by
  rw [Array.getD_eq_getD_getElem?, Array.getElem?_setIfInBounds_ne h, Array.getD_eq_getD_getElem?]
theorem getD_set_was {l : Array Bool} {i j : Nat} (h : (l.setIfInBounds i true).getD j false = false) : l.getD j false = false := by
  by_cases e : i = j
  · subst e
    by_cases hi : i < l.size
    · rw [getD_set_self hi] at h; cases h
    · rw [Array.getD_eq_getD_getElem?, Array.getElem?_eq_none (by omega)]; rfl
  · rwa [getD_set_other e] at h
theorem getD_set_on {l : Array Bool} {i j : Nat} (h : l.getD j false = true) : (l.setIfInBounds i true).getD j false = true := by
  cases e : (l.setIfInBounds i true).getD j false with
  | true => rfl
  | false => rw [getD_set_was e] at h; cases h
theorem getD_both {l : Array Bool} {i : Nat} (h : i < l.size) (d d' : Bool) : l.getD i d = l.getD i d' := by
  rw [Array.getD_eq_getD_getElem?, Array.getD_eq_getD_getElem?, Array.getElem?_eq_getElem h]; rfl
namespace Kd
def any : Kd := ⟨fun _ _ _ => True, fun _ _ => trivial⟩
/-- This value. -/
def eq (c : Value) : Kd := ⟨fun _ v _ => v = c, fun _ h => h⟩
/-- A value of which something holds, also later. -/
def of (q : Value → World → Prop) (h : ∀ {v W W'}, q v W → Nx W W' → q v W') : Kd := ⟨fun _ v W => q v W, fun k h' => h h' k⟩
/-- .. until operation k. -/
def till (k : Nat) (q : Value → World → Prop) (h : ∀ {v W W'}, q v W → Nx W W' → q v W') : Kd := ⟨fun l v W => l.getD k false = false → q v W, fun kx h' e => h (h' (getD_set_was e)) kx⟩
end Kd
def kd (K : List Kd) (i : Nat) : Kd := (K[i]?).getD Kd.any

/-- No two operations write one slot. -/
def dstB (ops : Array Oper) : Bool := (List.range ops.size).all fun i => (List.range ops.size).all fun j => decide (i = j) || match (ops[i]?).bind (·.dst), (ops[j]?).bind (·.dst) with
  | some s, some t => decide (s ≠ t)
  | _, _ => true
theorem dstB_spec {ops : Array Oper} (h : dstB ops = true) {i j : Nat} {o p : Oper} {s : Nat} (ho : ops[i]? = some o) (hp : ops[j]? = some p) (h1 : o.dst = some s) (h2 : p.dst = some s) : i = j := by
  have hi : i < ops.size := (Array.getElem?_eq_some_iff.1 ho).1
  have hj : j < ops.size := (Array.getElem?_eq_some_iff.1 hp).1
  have a1 := List.all_eq_true.1 (List.all_eq_true.1 h i (List.mem_range.2 hi)) j (List.mem_range.2 hj)
  rw [ho, hp] at a1
  simp only [Option.bind_some, h1, h2] at a1
  simpa using a1
/-- No operation writes this slot. -/
def oldB (ops : Array Oper) (s : Nat) : Bool := ops.toList.all fun o => match o.dst with
  | some t => !(t == s)
  | none => true
theorem oldB_spec {ops : Array Oper} {s : Nat} (h : oldB ops s = true) {i : Nat} {o : Oper} (ho : ops[i]? = some o) : o.dst ≠ some s := fun e => by
  have h1 := List.all_eq_true.1 h o (by rw [← Array.getElem?_toList] at ho; exact List.mem_of_getElem? ho)
  rw [e] at h1
  simp at h1
/-- The slots that are written. -/
def dsts (ops : Array Oper) : List Nat := ops.toList.filterMap (·.dst)
/-- What is ahead of operation o was carried out. -/
def Dn (l : Array Bool) (o : Oper) : Prop := ∀ e ∈ o.after, Region.binds .any e = true → l.getD e.on false = true
def hasE (o : Oper) (k : Nat) : Bool := o.after.toList.any fun e => e.on == k && Region.binds .any e
theorem Dn.at {l : Array Bool} {o : Oper} (h : Dn l o) (k : Nat) (hk : hasE o k = true) : l.getD k false = true := by
  obtain ⟨e, he, h1⟩ := List.any_eq_true.1 hk
  rw [Bool.and_eq_true, beq_iff_eq] at h1
  rw [← h1.1]
  exact h e (Array.mem_toList_iff.1 he) h1.2
/-- What stands there in the midst of the region. -/
structure Fl (ops : Array Oper) (a0 : Act) (K : List Kd) (Inv : Array Bool → World → Prop) (l : Array Bool) (a : Act) (W : World) : Prop where
  sz : l.size = ops.size
  df : a.defers = a0.defers
  ts : a.tmps.size = a0.tmps.size
  ot : ∀ s, (∀ i o, ops[i]? = some o → o.dst = some s → l.getD i true = false) → a.tmps[s]? = a0.tmps[s]?
  vals : ∀ i o s, ops[i]? = some o → o.dst = some s → l.getD i true = true → ∃ v, a.tmps[s]? = some v ∧ (kd K i).p l v W
  cl : ∀ i o, ops[i]? = some o → l.getD i false = true → Dn l o
  inv : Inv l W
section
variable {P : Program} {ops : Array Oper} {Q : Exit → Act → World → Prop} {a0 : Act} {K : List Kd} {Inv : Array Bool → World → Prop} {l : Array Bool} {a : Act} {W : World}
theorem replicate_off {n i : Nat} : (Array.replicate n false).getD i false = false := by
  rw [Array.getD_eq_getD_getElem?, Array.getElem?_replicate]; split <;> rfl
theorem Fl.start (h : Inv (Array.replicate ops.size false) W) : Fl ops a0 K Inv (Array.replicate ops.size false) a0 W :=
  ⟨by simp, rfl, rfl, fun _ _ => rfl, (fun i o s ho _ hl => by
    have hi : i < ops.size := (Array.getElem?_eq_some_iff.1 ho).1
    rw [Array.getD_eq_getD_getElem?, Array.getElem?_replicate, if_pos hi] at hl
    exact absurd hl (by decide)), (fun i o ho hl => by rw [replicate_off] at hl; cases hl), h⟩
theorem Fl.lt (h : Fl ops a0 K Inv l a W) {i : Nat} {o : Oper} (ho : ops[i]? = some o) : i < l.size := by rw [h.sz]; exact (Array.getElem?_eq_some_iff.1 ho).1
theorem Fl.cl_set (h : Fl ops a0 K Inv l a W) {i : Nat} {o : Oper} (ho : ops[i]? = some o) (hd : Dn l o) : ∀ j p, ops[j]? = some p → (l.setIfInBounds i true).getD j false = true → Dn (l.setIfInBounds i true) p := fun j p hp hl e he hb => by
  by_cases hij : i = j
  · subst hij
    rw [ho] at hp
    cases hp
    exact getD_set_on (hd e he hb)
  · rw [getD_set_other hij] at hl
    exact getD_set_on (h.cl j p hp hl e he hb)
/-- A slot was written. -/
theorem Fl.put (h : Fl ops a0 K Inv l a W) (hu : dstB ops = true) {i s : Nat} {o : Oper} (ho : ops[i]? = some o) (hd : Dn l o) (hs : o.dst = some s) (hlt : s < a0.tmps.size) {v : Value} {W' : World} (hv : (kd K i).p (l.setIfInBounds i true) v W') (hst : ∀ j u, i ≠ j → l.getD j false = true → (kd K j).p l u W → (kd K j).p (l.setIfInBounds i true) u W') (hi : Inv (l.setIfInBounds i true) W') :
    Fl ops a0 K Inv (l.setIfInBounds i true) (a.put o.dst v) W' := by
  have hil : i < l.size := h.lt ho
  have hcl := h.cl_set ho hd
  rw [hs]
  refine ⟨by rw [Array.size_setIfInBounds]; exact h.sz, h.df, by show (a.tmps.setIfInBounds s v).size = _; rw [Array.size_setIfInBounds]; exact h.ts, fun t ht => ?_, fun j p t hp ht hl => ?_, hcl, hi⟩
  · have hne : s ≠ t := fun e => by
      subst e
      have := ht i o ho hs
      rw [getD_set_self hil] at this
      cases this
    show (a.tmps.setIfInBounds s v)[t]? = _
    rw [Array.getElem?_setIfInBounds_ne hne]
    exact h.ot t fun j p hp hd => by
      have hji : i ≠ j := fun e => by
        subst e
        rw [ho] at hp
        cases hp
        rw [hs] at hd
        exact hne (Option.some.inj hd)
      have := ht j p hp hd
      rwa [getD_set_other hji] at this
  · show ∃ u, (a.tmps.setIfInBounds s v)[t]? = some u ∧ _
    by_cases hji : i = j
    · subst hji
      rw [ho] at hp
      cases hp
      rw [hs] at ht
      cases ht
      exact ⟨v, Array.getElem?_setIfInBounds_self_of_lt (by rw [h.ts]; exact hlt), hv⟩
    · have hne : s ≠ t := fun e => hji (dstB_spec hu ho hp hs (by rw [ht, e]))
      rw [getD_set_other hji] at hl
      obtain ⟨u, h1, h2⟩ := h.vals j p t hp ht hl
      exact ⟨u, by rw [Array.getElem?_setIfInBounds_ne hne]; exact h1, hst j u hji (by rw [← hl]; exact getD_both (h.lt hp) _ _) h2⟩
/-- Nothing was written into a slot. -/
theorem Fl.none (h : Fl ops a0 K Inv l a W) {i : Nat} {o : Oper} (ho : ops[i]? = some o) (hd : Dn l o) (hs : o.dst = none) {v : Value} {W' : World} (hst : ∀ j u, i ≠ j → l.getD j false = true → (kd K j).p l u W → (kd K j).p (l.setIfInBounds i true) u W') (hi : Inv (l.setIfInBounds i true) W') :
    Fl ops a0 K Inv (l.setIfInBounds i true) (a.put o.dst v) W' := by
  have hcl := h.cl_set ho hd
  rw [hs]
  refine ⟨by rw [Array.size_setIfInBounds]; exact h.sz, h.df, h.ts, fun t ht => h.ot t fun j p hp hd => ?_, fun j p t hp ht hl => ?_, hcl, hi⟩
  · have hji : i ≠ j := fun e => by
      subst e
      rw [ho] at hp
      cases hp
      rw [hs] at hd
      cases hd
    have := ht j p hp hd
    rwa [getD_set_other hji] at this
  · have hji : i ≠ j := fun e => by
      subst e
      rw [ho] at hp
      cases hp
      rw [hs] at ht
      cases ht
    rw [getD_set_other hji] at hl
    obtain ⟨u, h1, h2⟩ := h.vals j p t hp ht hl
    exact ⟨u, h1, hst j u hji (by rw [← hl]; exact getD_both (h.lt hp) _ _) h2⟩
/-- The value in a slot of what was carried out. -/
theorem Fl.slot (h : Fl ops a0 K Inv l a W) {i s : Nat} {o : Oper} (ho : ops[i]? = some o) (hs : o.dst = some s) (hl : l.getD i false = true) : ∃ v, a.tmps[s]? = some v ∧ (kd K i).p l v W :=
  h.vals i o s ho hs (by rw [getD_both (h.lt ho) true false]; exact hl)
theorem Fl.get (h : Fl ops a0 K Inv l a W) {i s : Nat} {o : Oper} (ho : ops[i]? = some o) (hs : o.dst = some s) (hl : l.getD i false = true) : ∃ v, a.eval (.tmp s) = v ∧ (kd K i).p l v W := by
  obtain ⟨v, h1, h2⟩ := h.slot ho hs hl
  exact ⟨v, by show a.tmps.getD s undef = v; rw [Array.getD_eq_getD_getElem?, h1]; rfl, h2⟩
/-- A slot that the region does not write. -/
theorem Fl.old (h : Fl ops a0 K Inv l a W) {s : Nat} (hs : oldB ops s = true) : a.eval (.tmp s) = a0.eval (.tmp s) := by
  show a.tmps.getD s undef = a0.tmps.getD s undef
  rw [Array.getD_eq_getD_getElem?, Array.getD_eq_getD_getElem?, h.ot s fun i o ho hd => absurd hd (oldB_spec hs ho)]
/-- What comes behind an operation that was not carried out was not either. -/
theorem Fl.off (h : Fl ops a0 K Inv l a W) {j k : Nat} {o : Oper} (hl : l.getD k false = false) (ho : ops[j]? = some o) (he : hasE o k = true) : l.getD j false = false := by
  cases e : l.getD j false with
  | false => rfl
  | true => have := (h.cl j o ho e).at k he; rw [hl] at this; cases this
theorem Fl.on (h : Fl ops a0 K Inv l a W) {j k : Nat} {o : Oper} (hl : l.getD j false = true) (ho : ops[j]? = some o) (he : hasE o k = true) : l.getD k false = true := (h.cl j o ho hl).at k he
/-- The slots, as the region leaves them. -/
theorem form_of (t t0 : Array Value) (hs : t.size = t0.size) : ∀ (ds : List Nat), (∀ s, s ∉ ds → t[s]? = t0[s]?) → t = ds.foldl (fun acc d => acc.setIfInBounds d (t.getD d undef)) t0 := fun ds h => by
  apply Array.ext_getElem?
  intro i
  have key : ∀ (ds : List Nat) (t1 : Array Value), t1.size = t.size → (ds.foldl (fun acc d => acc.setIfInBounds d (t.getD d undef)) t1)[i]? = if i ∈ ds then t[i]? else t1[i]? := by
    intro ds
    induction ds with
    | nil => intro t1 _; simp
    | cons d ds ih =>
      intro t1 h1
      rw [List.foldl_cons, ih _ (by rw [Array.size_setIfInBounds]; exact h1)]
      by_cases hi : i ∈ ds
      · rw [if_pos hi, if_pos (List.mem_cons_of_mem _ hi)]
      · rw [if_neg hi]
        by_cases hd : i = d
        · subst hd
          rw [if_pos List.mem_cons_self]
          by_cases hlt : i < t1.size
          · rw [Array.getElem?_setIfInBounds_self_of_lt hlt, Array.getD_eq_getD_getElem?, Array.getElem?_eq_getElem (by omega)]; rfl
          · rw [Array.getElem?_eq_none (by rw [Array.size_setIfInBounds]; omega), Array.getElem?_eq_none (by omega)]
        · rw [Array.getElem?_setIfInBounds_ne (fun e => hd e.symm), if_neg (fun e => by rcases List.mem_cons.1 e with e | e; exact hd e; exact hi e)]
  rw [key ds t0 hs.symm]
  split
  · rfl
  · rename_i hn; exact h i hn
theorem mem_dsts {ops : Array Oper} {i s : Nat} {o : Oper} (ho : ops[i]? = some o) (hs : o.dst = some s) : s ∈ dsts ops := by
  rw [← Array.getElem?_toList] at ho
  exact List.mem_filterMap.2 ⟨o, List.mem_of_getElem? ho, hs⟩
theorem Fl.form (h : Fl ops a0 K Inv l a W) : a = { tmps := (dsts ops).foldl (fun acc d => acc.setIfInBounds d (a.tmps.getD d undef)) a0.tmps, defers := a0.defers } := by
  have h1 := form_of a.tmps a0.tmps h.ts (dsts ops) fun s hs => h.ot s fun i o ho hd => absurd (mem_dsts ho hd) hs
  have h2 := h.df
  obtain ⟨t, d⟩ := a
  simp only at h2 h1
  subst h2
  rw [← h1]
/-! ### Steps -/
theorem wpOp_run_w {i : Nat} {o : Oper} {K : Act → World → Prop} {a : Act} {w w' : World} {v : Value} (ho : ops[i]? = some o) (hg : Region.wanted o (yielded ops a.tmps) = true) (h : (execOp a.eval o).run P w = .ok (.value v) w') (hK : K (a.put o.dst v) w') : wpOp P ops Q i K a w := by
  refine wpOp_step ho fun K' hK' => ?_
  rw [if_pos hg]
  show o.upon P a K' Q ((execOp a.eval o).run P w)
  rw [h]
  exact hK' _ _ hK
theorem wpOp_skip_w {i : Nat} {o : Oper} {K : Act → World → Prop} {a : Act} {w w' : World} (ho : ops[i]? = some o) (hg : Region.wanted o (yielded ops a.tmps) = true) (h : (execOp a.eval o).run P w = .ok .skip w') (hK : K (a.put o.dst undef) w') : wpOp P ops Q i K a w := by
  refine wpOp_step ho fun K' hK' => ?_
  rw [if_pos hg]
  show o.upon P a K' Q ((execOp a.eval o).run P w)
  rw [h]
  exact hK' _ _ hK
theorem wpOp_enter_w {i : Nat} {o : Oper} {K : Act → World → Prop} {a : Act} {w : World} {f : FuncId} {args : Array Value} {R : Ending → World → Prop} (ho : ops[i]? = some o) (hg : Region.wanted o (yielded ops a.tmps) = true) (h : (execOp a.eval o).run P w = .ok (.enter f args) w)
    (hc : Calls P f args w R) (hR : ∀ e w', R e w' → ∃ v, e = .returned v ∧ K (a.put o.dst v) w') : wpOp P ops Q i K a w := by
  refine wpOp_step ho fun K' hK' => ?_
  rw [if_pos hg]
  show o.upon P a K' Q ((execOp a.eval o).run P w)
  rw [h, Oper.upon_enter]
  refine hc.mono fun e w' hr => ?_
  obtain ⟨v, rfl, hk⟩ := hR e w' hr
  exact hK' _ _ hk
/-- What is not wanted gives nothing. -/
theorem wpOp_not {i : Nat} {o : Oper} {K : Act → World → Prop} {a : Act} {w : World} (ho : ops[i]? = some o) (hg : Region.wanted o (yielded ops a.tmps) = false) (hK : K (a.put o.dst undef) w) : wpOp P ops Q i K a w := by
  refine wpOp_step ho fun K' hK' => ?_
  rw [if_neg (by rw [hg]; decide)]
  exact hK' _ _ hK
/-- An operation that is not guarded. -/
theorem want_none {o : Oper} {f : Nat → Option Bool} (h : o.guard = none) : Region.wanted o f = true := by unfold Region.wanted; rw [h]
theorem Fl.yields (h : Fl ops a0 K Inv l a W) {k s : Nat} {o : Oper} (ho : ops[k]? = some o) (hs : o.dst = some s) (hl : l.getD k false = true) {b : Bool} (hb : ∀ v, (kd K k).p l v W → v = .bool b) : yielded ops a.tmps k = some b := by
  obtain ⟨v, h1, h2⟩ := h.slot ho hs hl
  unfold yielded
  rw [ho]
  simp only [Option.bind_some, hs, h1]
  rw [hb v h2]
/-- .. and one that is, where its guard is as it wants it. -/
theorem Fl.want (h : Fl ops a0 K Inv l a W) {k s : Nat} {b : Bool} {o p : Oper} (hg : o.guard = some (k, b)) (ho : ops[k]? = some p) (hs : p.dst = some s) (hl : l.getD k false = true) (hb : ∀ v, (kd K k).p l v W → v = .bool b) : Region.wanted o (yielded ops a.tmps) = true := by
  unfold Region.wanted
  rw [hg]
  simp only
  rw [h.yields ho hs hl hb]
  simp
theorem Fl.unwant (h : Fl ops a0 K Inv l a W) {k s : Nat} {b : Bool} {o p : Oper} (hg : o.guard = some (k, b)) (ho : ops[k]? = some p) (hs : p.dst = some s) (hl : l.getD k false = true) (hb : ∀ v, (kd K k).p l v W → v = .bool (!b)) : Region.wanted o (yielded ops a.tmps) = false := by
  unfold Region.wanted
  rw [hg]
  simp only
  rw [h.yields ho hs hl hb]
  cases b <;> rfl
/-- One operation, whatever was carried out. -/
def Stp (P : Program) (ops : Array Oper) (Q : Exit → Act → World → Prop) (a0 : Act) (K : List Kd) (Inv : Array Bool → World → Prop) (i : Nat) : Prop :=
  ∀ l a W o, Fl ops a0 K Inv l a W → ops[i]? = some o → l.getD i true = false → Dn l o → wpOp P ops Q i (Fl ops a0 K Inv (l.setIfInBounds i true)) a W
theorem kd_nx {j i : Nat} {u : Value} {W W' : World} (h : Nx W W') (k : (kd K j).p l u W) : (kd K j).p (l.setIfInBounds i true) u W' := (kd K j).st h k
theorem stp_val {i s : Nat} {o : Oper} (hu : dstB ops = true) (H : ops[i]? = some o) (hs : o.dst = some s) (hlt : s < a0.tmps.size)
    (hr : ∀ l a W, Fl ops a0 K Inv l a W → l.getD i false = false → Dn l o → Region.wanted o (yielded ops a.tmps) = true ∧ ∃ v W', (execOp a.eval o).run P W = .ok (.value v) W' ∧ (kd K i).p (l.setIfInBounds i true) v W' ∧ Nx W W' ∧ Inv (l.setIfInBounds i true) W') : Stp P ops Q a0 K Inv i := by
  intro l a W o' hF ho hn hd
  rw [H] at ho
  cases ho
  obtain ⟨hg, v, W', h1, h2, h3, h4⟩ := hr l a W hF (by rw [← hn]; exact getD_both (hF.lt H) _ _) hd
  exact wpOp_run_w H hg h1 (hF.put hu H hd hs hlt h2 (fun j u _ _ => kd_nx h3) h4)
/-- .. of which no more is asked than that slots change. -/
theorem stp_call {i s : Nat} {o : Oper} (hu : dstB ops = true) (H : ops[i]? = some o) (hs : o.dst = some s) (hlt : s < a0.tmps.size)
    (hr : ∀ l a W, Fl ops a0 K Inv l a W → l.getD i false = false → Dn l o → Region.wanted o (yielded ops a.tmps) = true ∧ ∃ f args R, (execOp a.eval o).run P W = .ok (.enter f args) W ∧ Calls P f args W R ∧ ∀ e W', R e W' → ∃ v, e = .returned v ∧ (kd K i).p (l.setIfInBounds i true) v W' ∧ Nx W W' ∧ Inv (l.setIfInBounds i true) W') : Stp P ops Q a0 K Inv i := by
  intro l a W o' hF ho hn hd
  rw [H] at ho
  cases ho
  obtain ⟨hg, f, args, R, h1, h2, h3⟩ := hr l a W hF (by rw [← hn]; exact getD_both (hF.lt H) _ _) hd
  refine wpOp_enter_w H hg h1 h2 fun e W' he => ?_
  obtain ⟨v, e1, e2, e3, e4⟩ := h3 e W' he
  exact ⟨v, e1, hF.put hu H hd hs hlt e2 (fun j u _ _ => kd_nx e3) e4⟩
/-- One that is not wanted. -/
theorem stp_not {i s : Nat} {o : Oper} (hu : dstB ops = true) (H : ops[i]? = some o) (hs : o.dst = some s) (hlt : s < a0.tmps.size)
    (hr : ∀ l a W, Fl ops a0 K Inv l a W → l.getD i false = false → Dn l o → Region.wanted o (yielded ops a.tmps) = false ∧ (kd K i).p (l.setIfInBounds i true) undef W ∧ Inv (l.setIfInBounds i true) W) : Stp P ops Q a0 K Inv i := by
  intro l a W o' hF ho hn hd
  rw [H] at ho
  cases ho
  obtain ⟨hg, h1, h2⟩ := hr l a W hF (by rw [← hn]; exact getD_both (hF.lt H) _ _) hd
  exact wpOp_not H hg (hF.put hu H hd hs hlt h1 (fun j u _ _ => kd_nx (Nx.refl W)) h2)
/-- A store. -/
theorem stp_skip {i : Nat} {o : Oper} (H : ops[i]? = some o) (hs : o.dst = none)
    (hr : ∀ l a W, Fl ops a0 K Inv l a W → l.getD i false = false → Dn l o → Region.wanted o (yielded ops a.tmps) = true ∧ ∃ W', (execOp a.eval o).run P W = .ok .skip W' ∧ (∀ j u, i ≠ j → l.getD j false = true → (kd K j).p l u W → (kd K j).p (l.setIfInBounds i true) u W') ∧ Inv (l.setIfInBounds i true) W') : Stp P ops Q a0 K Inv i := by
  intro l a W o' hF ho hn hd
  rw [H] at ho
  cases ho
  obtain ⟨hg, W', h1, h2, h3⟩ := hr l a W hF (by rw [← hn]; exact getD_both (hF.lt H) _ _) hd
  exact wpOp_skip_w H hg h1 (hF.none H hd hs h2 h3)
/-- A value by which old blocks turn. -/
theorem stp_turn {i s : Nat} {o : Oper} (hu : dstB ops = true) (H : ops[i]? = some o) (hs : o.dst = some s) (hlt : s < a0.tmps.size)
    (hr : ∀ l a W, Fl ops a0 K Inv l a W → l.getD i false = false → Dn l o → Region.wanted o (yielded ops a.tmps) = true ∧ ∃ v W', (execOp a.eval o).run P W = .ok (.value v) W' ∧ (kd K i).p (l.setIfInBounds i true) v W' ∧ (∀ j u, i ≠ j → l.getD j false = true → (kd K j).p l u W → (kd K j).p (l.setIfInBounds i true) u W') ∧ Inv (l.setIfInBounds i true) W') : Stp P ops Q a0 K Inv i := by
  intro l a W o' hF ho hn hd
  rw [H] at ho
  cases ho
  obtain ⟨hg, v, W', h1, h2, h3, h4⟩ := hr l a W hF (by rw [← hn]; exact getD_both (hF.lt H) _ _) hd
  exact wpOp_run_w H hg h1 (hF.put hu H hd hs hlt h2 h3 h4)
def Upto (p : Nat → Prop) : Nat → Prop
  | 0 => True
  | n + 1 => Upto p n ∧ p n
theorem Upto.at {p : Nat → Prop} : ∀ {n : Nat}, Upto p n → ∀ i, i < n → p i
  | 0, _, i, h => by omega
  | n + 1, h, i, hi => by
    by_cases e : i = n
    · subst e; exact h.2
    · exact Upto.at h.1 i (by omega)
/-- The region. -/
theorem flows {id : Nat} {w : World} (hm : P.follows .mixedOrders = true) (ho : ordB ops = true) {n : Nat} (hn : ops.size = n) (h0 : Inv (Array.replicate ops.size false) w.drew) (hs : Upto (Stp P ops Q a0 K Inv) n)
    (fin : ∀ l a W, Fl ops a0 K Inv l a W → (∀ i, i < n → l.getD i false = true) → Q .normal a W) : (Code.region id ops true).wp P Q a0 w :=
  region_flow hm ho (Fl ops a0 K Inv) (fun _ _ _ h => h.sz) (Fl.start h0)
    (fun l a W i o hF ho hl hd => hs.at i (by rw [← hn]; exact (Array.getElem?_eq_some_iff.1 ho).1) l a W o hF ho hl hd)
    (fun l a W hF hl => fin l a W hF fun i hi => by rw [← hl i (by omega)]; exact getD_both (by rw [hF.sz]; omega) _ _)
end
/-- The operations of a region. -/
def rops? : Code → Nat → Option (Array Oper)
  | .region i ops _, n => if i = n then some ops else none
  | .seq a b, n => (rops? a n).or (rops? b n)
  | .cond _ a b, n => (rops? a n).or (rops? b n)
  | .block _ a, n => rops? a n
  | .loop a, n => rops? a n
  | .scope a, n => rops? a n
  | .rangeFunc _ _ a b, n => (rops? a n).or (rops? b n)
  | _, _ => none
def rops (f : Func) (n : Nat) : Array Oper := (f.body.bind fun c => rops? c n).getD #[]
end Go.Proofs.Ytekcphpeaoaaaaa

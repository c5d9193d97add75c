/- A region that draws its order, operation by operation: what each operation finds and leaves, whatever the order. No function of the program is named here. -/
import Derived.Test.YtekcphpeaoaaaaaTbPush
namespace Go.Proofs.Ytekcphpeaoaaaaa
open Go.RowKit
set_option linter.unusedVariables false

section
variable {P : Program} {ops : Array Oper} {Q : Exit → Act → World → Prop} {md : Region.Mode}
/-- Edges lead to what stands ahead. -/
def ordB (ops : Array Oper) : Bool := (List.range ops.size).all fun i => ((ops[i]?).map fun o => o.after.all fun e => !Region.binds .any e || decide (e.on < i)).getD true
theorem ordB_spec (h : ordB ops = true) {i : Nat} {o : Oper} (ho : ops[i]? = some o) : ∀ e ∈ o.after, Region.binds .any e = true → e.on < i := by
  have hi : i < ops.size := (Array.getElem?_eq_some_iff.1 ho).1
  have h1 := List.all_eq_true.1 h i (List.mem_range.2 hi)
  rw [ho] at h1
  simp only [Option.map_some, Option.getD_some] at h1
  intro e he hb
  have h2 := (Array.all_eq_true'.1 h1) e he
  rw [hb] at h2
  simpa using h2
theorem all_listed (h : ordB ops = true) {l : Array Bool} (hl : l.size = ops.size) (hr : Region.ready .any ops l = []) : ∀ i, i < ops.size → l.getD i true = true := by
  intro i
  induction i using Nat.strongRecOn with
  | ind i ih =>
    intro hi
    apply Classical.byContradiction
    intro hn
    have hf : l.getD i true = false := by simpa using hn
    have hm : i ∈ Region.ready .any ops l := by
      rw [mem_ready]
      refine ⟨hf, ops[i], Array.getElem?_eq_getElem hi, fun e he hb => ?_⟩
      have h1 := ordB_spec h (Array.getElem?_eq_getElem hi) e he hb
      have h2 := ih e.on h1 (by omega)
      have hlt : e.on < l.size := by omega
      rw [Array.getD_eq_getD_getElem?, Array.getElem?_eq_getElem hlt] at h2 ⊢
      exact h2
    rw [hr] at hm
    cases hm
def left (l : Array Bool) : Nat := l.toList.count false
theorem left_set : ∀ (xs : List Bool) (i : Nat), xs[i]? = some false → (xs.set i true).count false + 1 = xs.count false
  | [], i, h => by simp at h
  | x :: xs, 0, h => by
    obtain rfl : x = false := by simpa using h
    simp
  | x :: xs, i + 1, h => by
    have ih := left_set xs i (by simpa using h)
    rw [List.set_cons_succ, List.count_cons, List.count_cons]
    omega
theorem left_zero {xs : List Bool} (h : xs.count false = 0) : ∀ i (hi : i < xs.length), xs[i] = true := fun i hi => by
  have h1 : false ∉ xs := List.count_eq_zero.1 h
  cases hx : xs[i] with
  | true => rfl
  | false => exact absurd (hx ▸ List.getElem_mem hi) h1
theorem wpAny_flow (Good : Array Bool → Act → World → Prop) (hsz : ∀ l a W, Good l a W → l.size = ops.size)
    (step : ∀ l a W i o, Good l a W → ops[i]? = some o → l.getD i true = false → (∀ e ∈ o.after, Region.binds md e = true → l.getD e.on false = true) → wpOp P ops Q i (Good (l.setIfInBounds i true)) a W)
    (fin : ∀ l a W, Good l a W → Region.ready md ops l = [] → Q .normal a W) :
    ∀ (fuel : Nat) (l : Array Bool) (a : Act) (W : World), Good l a W → left l ≤ fuel → wpAny P md ops Q fuel l a W
  | 0, l, a, W, hg, hl => by
    have h0 : Region.ready md ops l = [] := by
      rw [List.eq_nil_iff_forall_not_mem]
      intro i hi
      obtain ⟨h1, o, ho, _⟩ := mem_ready.1 hi
      have hlt : i < l.size := by rw [hsz l a W hg]; exact (Array.getElem?_eq_some_iff.1 ho).1
      have h2 := left_zero (xs := l.toList) (by unfold left at hl; omega) i (by simpa using hlt)
      rw [Array.getD_eq_getD_getElem?, Array.getElem?_eq_getElem hlt] at h1
      rw [Array.getElem_toList] at h2
      rw [h2] at h1
      cases h1
    exact ⟨h0, fin l a W hg h0⟩
  | fuel + 1, l, a, W, hg, hl => by
    refine ⟨fun h0 => fin l a W hg h0, fun i hi => ?_⟩
    obtain ⟨h1, o, ho, hd⟩ := mem_ready.1 hi
    refine wpOp_mono (fun a' W' hg' => wpAny_flow Good hsz step fin fuel _ a' W' hg' ?_) (step l a W i o hg ho h1 hd)
    have hlt : i < l.size := by rw [hsz l a W hg]; exact (Array.getElem?_eq_some_iff.1 ho).1
    rw [Array.getD_eq_getD_getElem?, Array.getElem?_eq_getElem hlt] at h1
    have h2 := left_set l.toList i (by rw [Array.getElem?_toList, Array.getElem?_eq_getElem hlt]; exact congrArg some h1)
    unfold left at *
    rw [Array.toList_setIfInBounds]
    omega
/-- A region that draws its order, outside a round. -/
theorem region_flow {id : Nat} {a0 : Act} {w : World} (hm : P.follows .mixedOrders = true) (ho : ordB ops = true) (Good : Array Bool → Act → World → Prop) (hsz : ∀ l a W, Good l a W → l.size = ops.size)
    (h0 : Good (Array.replicate ops.size false) a0 w.drew)
    (step : ∀ l a W i o, Good l a W → ops[i]? = some o → l.getD i true = false → (∀ e ∈ o.after, Region.binds .any e = true → l.getD e.on false = true) → wpOp P ops Q i (Good (l.setIfInBounds i true)) a W)
    (fin : ∀ l a W, Good l a W → (∀ i, i < ops.size → l.getD i true = true) → Q .normal a W) : (Code.region id ops true).wp P Q a0 w :=
  wp_region_any hm (wpAny_flow Good hsz step (fun l a W hg hr => fin l a W hg (all_listed ho (hsz l a W hg) hr)) _ _ _ _ h0 (by
    unfold left
    refine Nat.le_trans List.count_le_length ?_
    simp))
/-- .. and in a round. -/
theorem region_flow_in {l m id : Nat} {a0 : Act} {w : World} (hm : P.follows .mixedOrders = true) (hd : noDefer ops) (hq : ¬ LetsOut Q) (ho : ordB ops = true) (Good : Array Bool → Act → World → Prop) (hsz : ∀ l a W, Good l a W → l.size = ops.size)
    (h0 : Good (Array.replicate ops.size false) a0 w.drew)
    (step : ∀ l a W i o, Good l a W → ops[i]? = some o → l.getD i true = false → (∀ e ∈ o.after, Region.binds .any e = true → l.getD e.on false = true) → wpOp P ops Q i (Good (l.setIfInBounds i true)) a W)
    (fin : ∀ l a W, Good l a W → (∀ i, i < ops.size → l.getD i true = true) → Q .normal a W) : (Code.region id ops true).wpIn (Fence.wide.inRound l) m P Q a0 w :=
  any_round hm hd hq (wpAny_flow Good hsz step (fun l a W hg hr => fin l a W hg (all_listed ho (hsz l a W hg) hr)) _ _ _ _ h0 (by
    unfold left
    refine Nat.le_trans List.count_le_length ?_
    simp))
end
end Go.Proofs.Ytekcphpeaoaaaaa

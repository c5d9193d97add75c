/- Slices of strings of the call's own. -/
import Derived.Test.YtkffijgmcekboaaDoorPtLives
namespace Go.Proofs.YtkffijgmcekboaaDoor
open Go.RowKit
set_option linter.unusedVariables false

def strv (l : List (List UInt8)) : List Value := l.map fun x => Value.string (S x)
theorem strv_length (l : List (List UInt8)) : (strv l).length = l.length := by simp [strv]
theorem strv_get (l : List (List UInt8)) (j : Nat) (h : j < l.length) : (strv l)[j]? = some (.string (S (l.getD j []))) := by simp [strv, List.getD, h]
def OwnS (w : World) (B : Nat) (A : Option Addr) (n c : Nat) (l : List (List UInt8)) : Prop := w.ownsRow B 9 1 (.slice A n c) n (strv l)
theorem str_info : (Tryd.prog.info? 9).map (fun i => (i.zero, i.size, i.bytes)) = some (some (.string ⟨#[]⟩), 1, 16) := by kernel_rfl
section
variable {w w' : World} {B n c : Nat} {A : Option Addr} {l : List (List UInt8)}
theorem OwnS.block (h : OwnS w B A n c l) (hn : 0 < n) : ∃ g, A = some ⟨g, 0, none⟩ ∧ B ≤ g ∧ g < w.heap.size := by
  rcases h.2 with ⟨hv, h0⟩ | ⟨g, cap, cur, hv, hb, hg, _⟩
  · omega
  · simp only [Value.slice.injEq] at hv
    exact ⟨g, hv.1, hb, (Array.getElem?_eq_some_iff.1 hg).1⟩
theorem OwnS.below (h : OwnS w B A n c l) (hb : Below w.heap.size w w') : OwnS w' B A n c l := by
  refine ⟨h.1, ?_⟩
  rcases h.2 with hv | ⟨g, cap, cur, hv, hbb, hg, r⟩
  · exact .inl hv
  · exact .inr ⟨g, cap, cur, hv, hbb, (hb.block g (Array.getElem?_eq_some_iff.1 hg).1).trans hg, r⟩
theorem OwnS.alloc (h : OwnS w B A n c l) (o : Obj) : OwnS (w.alloc o) B A n c l := World.ownsRow.alloc h o
theorem OwnS.len (h : OwnS w B A n c l) : l.length = n := by
  have := h.1
  rw [strv_length] at this
  omega
theorem OwnS.cell {g : Nat} (h : OwnS w B (some ⟨g, 0, none⟩) n c l) (j : Nat) (hj : j < n) : w.cell? ⟨g, j, none⟩ = some (.string (S (l.getD j []))) := by
  have hc := World.ownsRow.cellAt h j (by omega)
  rw [hc, strv_get l j (by rw [h.len]; exact hj)]
theorem OwnS.caps (h : OwnS w B A n c l) : n ≤ c ∧ c ≤ maxLen := by
  rcases h.2 with ⟨hv, h0⟩ | ⟨g, cap, cur, hv, hb, hg, hnc, hcm, _⟩
  · simp only [Value.slice.injEq] at hv
    obtain ⟨-, rfl, rfl⟩ := hv
    exact ⟨Nat.le_refl _, Nat.zero_le _⟩
  · simp only [Value.slice.injEq] at hv
    obtain ⟨-, -, rfl⟩ := hv
    exact ⟨hnc, hcm⟩
end
theorem ownS_form {w : World} {B n : Nat} {v : Value} {xs : List Value} (h : w.ownsRow B 9 1 v n xs) : ∃ A c, v = .slice A n c := by
  rcases h.2 with ⟨hv, h0⟩ | ⟨g, cap, cur, hv, _⟩
  · exact ⟨none, 0, by rw [hv, h0]⟩
  · exact ⟨_, _, hv⟩
theorem BlkIs1 (w : World) (v : Value) : (w.alloc (.cells #[v] 9)).cell? ⟨w.heap.size, 0, none⟩ = some v := by
  simp
/-- append of one string. -/
theorem wpList_str_append {w : World} {ops : Array Oper} {rest : List Oper} {o : Oper} {a : Act} {Q : Exit → Act → World → Prop} (hgd : o.guard = none) (s x : Operand)
    (ho : o.op = .call { callee := .builtin .append, args := #[s, x], argTypes := #[55, 55] })
    (B : Nat) (A : Option Addr) (n c : Nat) (l : List (List UInt8)) (hs : a.eval s = .slice A n c) (hown : OwnS w B A n c l)
    (g : Nat) (p : List UInt8) (hx : a.eval x = .slice (some ⟨g, 0, none⟩) 1 1) (hc : w.cell? ⟨g, 0, none⟩ = some (.string (S p))) (hb : n ≤ 100000) (hB : B ≤ w.heap.size)
    (h : ∀ A2 c2 w', OwnS w' B A2 (n + 1) c2 (l ++ [p]) → w.grownBy w' (Value.slice A n c).ownBlock → wpList Tryd.prog ops Q rest (a.put o.dst (.slice A2 (n + 1) c2)) w') :
    wpList Tryd.prog ops Q (o :: rest) a w := by
  refine wpList_plain hgd fun K hK => ?_
  obtain ⟨i, hi, hz, hs', hby⟩ := info_parts str_info
  obtain ⟨v', w', hrun, h2, h3, _, h5⟩ := run_append_own_at (P := Tryd.prog) w B 55 o.type 9 i (.string ⟨#[]⟩) 1 16 Tryd.underlying55 hi hz hs' hby rfl (by decide) _ n _ hown ⟨g, 0, none⟩ 1 1 [.string (S p)]
      rfl (fun j u hu => by
        have hj : j < 1 := (List.getElem?_eq_some_iff.1 hu).1
        obtain rfl : j = 0 := by omega
        rw [add_plain, hc]
        exact hu) (by intro u hu; simp only [List.mem_singleton] at hu; subst hu; rfl) (by simp only [maxLen]; omega) (by omega) hB
  obtain ⟨A2, c2, rfl⟩ := ownS_form h2
  unfold Oper.wp execOp
  simp only [ho, resolve, invoke, builtin, Sem.run_bind, Sem.run_pure, Result.andThen_ok, List.map_toArray, List.map_cons, List.map_nil, hs, hx, hrun]
  exact hK _ _ (h A2 c2 w' (by unfold OwnS; rw [show strv (l ++ [p]) = strv l ++ [.string (S p)] by simp [strv]]; exact h2) h3)
end Go.Proofs.YtkffijgmcekboaaDoor

/- The reference: primes. -/
import Derived.Test.YtpgjnmakpghamaaDoorRfKH
import Derived.Test.YtpgjnmakpghamaaDoorDgStepsPure
namespace Go.Proofs.YtpgjnmakpghamaaDoor
open Go.RowKit
set_option linter.unusedVariables false

def u64v (l : List Nat) : List Value := l.map fun x : Nat => Value.int .u64 (x : Int)
theorem u64v_length (l : List Nat) : (u64v l).length = l.length := by simp [u64v]
theorem u64v_get (l : List Nat) (j : Nat) (h : j < l.length) : (u64v l)[j]? = some (.int .u64 (l.getD j 0 : Nat)) := by simp [u64v, List.getD, h]
def Own64 (w : World) (B : Nat) (A : Option Addr) (n c : Nat) (l : List Nat) : Prop := w.ownsRow B 55 1 (.slice A n c) n (u64v l)
theorem u64_info : (Tryd.prog.info? 55).map (fun i => (i.zero, i.size, i.bytes)) = some (some (.int .u64 0), 1, 8) := by kernel_rfl
theorem Own64.block {w : World} {B n c : Nat} {A : Option Addr} {l : List Nat} (h : Own64 w B A n c l) (hn : 0 < n) : ∃ g, A = some ⟨g, 0, none⟩ ∧ B ≤ g ∧ g < w.heap.size := by
  rcases h.2 with ⟨hv, h0⟩ | ⟨g, cap, cur, hv, hb, hg, _⟩
  · omega
  · simp only [Value.slice.injEq] at hv
    exact ⟨g, hv.1, hb, (Array.getElem?_eq_some_iff.1 hg).1⟩
theorem Own64.below {w w' : World} {B n c : Nat} {A : Option Addr} {l : List Nat} (h : Own64 w B A n c l) (hb : Below w.heap.size w w') : Own64 w' B A n c l := by
  refine ⟨h.1, ?_⟩
  rcases h.2 with hv | ⟨g, cap, cur, hv, hbb, hg, r⟩
  · exact .inl hv
  · exact .inr ⟨g, cap, cur, hv, hbb, (hb.block g (Array.getElem?_eq_some_iff.1 hg).1).trans hg, r⟩
theorem Own64.more {w : World} {B B' n c : Nat} {A : Option Addr} {l : List Nat} (h : Own64 w B A n c l) (hB : B' ≤ B) : Own64 w B' A n c l := by
  refine ⟨h.1, ?_⟩
  rcases h.2 with hv | ⟨g, cap, cur, hv, hb, r⟩
  · exact .inl hv
  · exact .inr ⟨g, cap, cur, hv, Nat.le_trans hB hb, r⟩
theorem Own64.alloc {w : World} {B n c : Nat} {A : Option Addr} {l : List Nat} (h : Own64 w B A n c l) (o : Obj) : Own64 (w.alloc o) B A n c l := World.ownsRow.alloc h o
theorem Own64.len {w : World} {B n c : Nat} {A : Option Addr} {l : List Nat} (h : Own64 w B A n c l) : l.length = n := by
  have := h.1
  rw [u64v_length] at this
  omega
theorem Own64.cell {w : World} {B n c g : Nat} {l : List Nat} (h : Own64 w B (some ⟨g, 0, none⟩) n c l) (j : Nat) (hj : j < n) : w.cell? ⟨g, j, none⟩ = some (.int .u64 (l.getD j 0 : Nat)) := by
  have hc := World.ownsRow.cellAt h j (by omega)
  rw [hc, u64v_get l j (by rw [h.len]; exact hj)]
theorem Own64.caps {w : World} {B n c : Nat} {A : Option Addr} {l : List Nat} (h : Own64 w B A n c l) : n ≤ c ∧ c ≤ maxLen := by
  rcases h.2 with ⟨hv, h0⟩ | ⟨g, cap, cur, hv, hb, hg, hnc, hcm, _⟩
  · simp only [Value.slice.injEq] at hv
    obtain ⟨-, rfl, rfl⟩ := hv
    exact ⟨Nat.le_refl _, Nat.zero_le _⟩
  · simp only [Value.slice.injEq] at hv
    obtain ⟨-, -, rfl⟩ := hv
    exact ⟨hnc, hcm⟩
theorem own64_form {w : World} {B n : Nat} {v : Value} {xs : List Value} (h : w.ownsRow B 55 1 v n xs) : ∃ A c, v = .slice A n c := by
  rcases h.2 with ⟨hv, h0⟩ | ⟨g, cap, cur, hv, _⟩
  · exact ⟨none, 0, by rw [hv, h0]⟩
  · exact ⟨_, _, hv⟩
/-- append of one number. -/
theorem wpList_u64_append {w : World} {ops : Array Oper} {rest : List Oper} {o : Oper} {a : Act} {Q : Exit → Act → World → Prop} (hgd : o.guard = none) (s x : Operand)
    (ho : o.op = .call { callee := .builtin .append, args := #[s, x], argTypes := #[67, 67] })
    (B : Nat) (A : Option Addr) (n c : Nat) (l : List Nat) (hs : a.eval s = .slice A n c) (hown : Own64 w B A n c l)
    (g p : Nat) (hx : a.eval x = .slice (some ⟨g, 0, none⟩) 1 1) (hc : w.cell? ⟨g, 0, none⟩ = some (.int .u64 (p : Int))) (hb : n ≤ 100000) (hB : B ≤ w.heap.size)
    (h : ∀ A2 c2 w', Own64 w' B A2 (n + 1) c2 (l ++ [p]) → w.grownBy w' (Value.slice A n c).ownBlock → wpList Tryd.prog ops Q rest (a.put o.dst (.slice A2 (n + 1) c2)) w') :
    wpList Tryd.prog ops Q (o :: rest) a w := by
  refine wpList_plain hgd fun K hK => ?_
  obtain ⟨i, hi, hz, hs', hby⟩ := info_parts u64_info
  obtain ⟨v', w', hrun, h2, h3, _, h5⟩ := run_append_own_at (P := Tryd.prog) w B 67 o.type 55 i (.int .u64 0) 1 8 Tryd.underlying67 hi hz hs' hby rfl (by decide) _ n _ hown ⟨g, 0, none⟩ 1 1 [.int .u64 (p : Int)]
      rfl (fun j u hu => by
        have hj : j < 1 := (List.getElem?_eq_some_iff.1 hu).1
        obtain rfl : j = 0 := by omega
        rw [add_plain, hc]
        exact hu) (by intro u hu; simp only [List.mem_singleton] at hu; subst hu; rfl) (by simp only [maxLen]; omega) (by omega) hB
  obtain ⟨A2, c2, rfl⟩ := own64_form h2
  unfold Oper.wp execOp
  simp only [ho, resolve, invoke, builtin, Sem.run_bind, Sem.run_pure, Result.andThen_ok, List.map_toArray, List.map_cons, List.map_nil, hs, hx, hrun]
  exact hK _ _ (h A2 c2 w' (by unfold Own64; rw [show u64v (l ++ [p]) = u64v l ++ [.int .u64 (p : Int)] by simp [u64v]]; exact h2) h3)
end Go.Proofs.YtpgjnmakpghamaaDoor

/- Package table: a node's count, a copy with subtrees, which of two is above, a search. -/
import Derived.Test.YtekcphpeaoaaaaaTbMem
import Derived.Deep.QuietTactic
import Derived.BigQuiet
import Derived.Deep.LoopGhost
import Derived.Laws.Rows
import Derived.Outline
namespace Go.Proofs.Ytekcphpeaoaaaaa
open Go.RowKit
set_option linter.unusedVariables false

theorem clone_any (w : World) (s : ByteArray) (hl : s.size ≤ 1000000000000) :
    Calls Try.prog 39 #[.string s] w fun e w' => e = .returned (.string s) ∧ Nx w w' := by
  have X := Lib.hid (Try.stringslite_Clone s w (by omega))
  go_enter Try.func39, Try.ntmps39
  go_wp2_with fail
  refine X.out.mono ?_
  rintro e w' ⟨rfl, hb⟩
  have Hb := Lib.hid hb
  clear hb X
  go_wp2
  go_ret
  exact ⟨rfl, Hb.out⟩

theorem count_any (w : World) (B : Nat) (v : Value) (t : T) (h : In w B v t) :
    Calls Try.prog 42 #[v] w fun e w' => e = .returned (.int .i64 (t.size : Int)) ∧ w = w' := by
  cases t with
  | nil =>
    obtain rfl : v = .pointer none := h
    go_enter Try.func42, Try.ntmps42
    go_wp2
    go_ret
    exact ⟨rfl, rfl⟩
  | nd l k x r =>
    obtain ⟨b, pl, pr, rfl, hb, hk, _⟩ := h
    have c3 := (node_at hk).c3
    generalize (T.nd l k x r).size = n at *
    clear hk hb
    go_enter Try.func42, Try.ntmps42
    go_wp2
    go_ret
    exact ⟨rfl, rfl⟩

/-- A result that lies in new memory. -/
def Ret (P : Value → World → Prop) (e : Ending) (w' : World) : Prop := ∃ v, e = .returned v ∧ P v w'

set_option maxRecDepth 100000 in
theorem with_any (w : World) (k x : Str) (n0 : Int) (p q pl pr : Value) (l r : T) (B B' : Nat) (hl : In w B pl l) (hr : In w B' pr r) (k1 : k.length ≤ 100000) (k2 : x.length ≤ 100000) (hs : (T.nd l k x r).size ≤ 1000000000) :
    Calls Try.prog 57 #[.agg (nodeC k x n0 p q), pl, pr] w (Ret fun v w' => In0 w' v (.nd l k x r) ∧ Nx w w') := by
  have hb : (l.size : Int) ≤ 1000000000 ∧ (r.size : Int) ≤ 1000000000 ∧ 0 ≤ (l.size : Int) ∧ 0 ≤ (r.size : Int) := by simp only [T.size] at hs; omega
  obtain ⟨b1, b2, b3, b4⟩ := hb
  obtain ⟨ul, rfl⟩ := hl.ptr
  obtain ⟨ur, rfl⟩ := hr.ptr
  have n1 := Nx.alloc (Nx.refl w) (.cells #[.string (S k), .string (S x), .int .u32 (rank k), .int .i64 n0, .pointer ul, .pointer ur] 66)
  have CL := Lib.hid (count_any _ _ _ _ (hl.nx n1))
  have CR := Lib.hid (count_any _ _ _ _ (hr.nx n1))
  have hnd : Hid ((T.nd l k x r).size = l.size + 1 + r.size) := rfl
  have HL := Lib.hid hl
  have HR := Lib.hid hr
  clear hl hr hs n1
  obtain ⟨w2, hw2⟩ : ∃ w2, w.alloc (.cells (nodeC k x ((l.size : Int) + 1 + (r.size : Int)) (.pointer ul) (.pointer ur)) 66) = w2 := ⟨_, rfl⟩
  have FIN : Hid (In0 w2 (.pointer (some ⟨w.heap.size, 0, none⟩)) (.nd l k x r) ∧ Nx w w2) := by
    subst hw2
    have n2 := Nx.alloc (Nx.refl w) (.cells (nodeC k x ((l.size : Int) + 1 + (r.size : Int)) (.pointer ul) (.pointer ur)) 66)
    refine ⟨In0.mk ?_ (HL.out.nx n2) (HR.out.nx n2) k1 k2, n2⟩
    have e : ((l.size : Int) + 1 + (r.size : Int)) = (((T.nd l k x r).size : Nat) : Int) := by rw [hnd.out]; push_cast; rfl
    rw [e]
    exact BlkIs.new w _ _
  unfold nodeC at hw2 ⊢
  have HW := Lib.hid hw2
  clear hw2 hnd HL HR
  generalize rank k = rk at *
  go_enter Try.func57, Try.ntmps57
  go_wp2_with fail
  refine CL.out.mono ?_
  rintro e w' ⟨rfl, rfl⟩
  go_wp2_with fail
  refine CR.out.mono ?_
  rintro e w' ⟨rfl, rfl⟩
  go_wp2
  go_ret
  rw [HW.out]
  exact ⟨_, rfl, FIN.out⟩

set_option maxRecDepth 100000 in
theorem above_any (w : World) (b b' : Nat) (k x k' x' : Str) (n n' : Int) (pl pr pl' pr' : Value) (h : NodeAt w b k x n pl pr) (h' : NodeAt w b' k' x' n' pl' pr') :
    Calls Try.prog 56 #[.pointer (some ⟨b, 0, none⟩), .pointer (some ⟨b', 0, none⟩)] w fun e w' => e = .returned (.bool (top k k')) ∧ ∃ n, w' = w.drewN n := by
  have c0 := h.c0
  have c2 := h.c2
  have d0 := h'.c0
  have d2 := h'.c2
  have hl := S_lt k k'
  clear h h'
  obtain ⟨tv, htv⟩ : ∃ tv, top k k' = tv := ⟨_, rfl⟩
  rw [htv]
  have HT := Lib.hid htv
  clear htv
  have HT2 : Hid (top k k' = (decide (rank k' < rank k) || (decide (rank k = rank k') && lt k k'))) := rfl
  generalize rank k = ra at *
  generalize rank k' = rb at *
  generalize lt k k' = lb at *
  generalize S k = sk at *
  generalize S k' = sk' at *
  by_cases g1 : rb < ra
  · have e1 : tv = true := by rw [← HT.out, HT2.out]; simp [g1]
    subst e1
    have g1' : decide (rb < ra) = true := by simpa using g1
    clear HT HT2 hl
    go_enter Try.func56, Try.ntmps56
    go_wp2_with fail
    go_quiet (fail)
    go_wp2
    go_ret
    exact ⟨rfl, _, rfl⟩
  · have g1' : decide (rb < ra) = false := by simpa using g1
    by_cases g2 : ra = rb
    · have e1 : tv = lb := by rw [← HT.out, HT2.out]; simp [g2]
      subst e1
      subst g2
      clear HT HT2
      go_enter Try.func56, Try.ntmps56
      go_wp2_with fail
      go_quiet (fail)
      go_wp2
      go_ret
      exact ⟨rfl, _, rfl⟩
    · have e1 : tv = false := by rw [← HT.out, HT2.out]; simp [g1, g2]
      subst e1
      have g2' : (ra == rb) = false := by simpa using g2
      clear HT HT2 hl
      go_enter Try.func56, Try.ntmps56
      go_wp2_with fail
      go_quiet (fail)
      go_wp2
      go_ret
      exact ⟨rfl, _, rfl⟩
end Go.Proofs.Ytekcphpeaoaaaaa

/- Package tree: slices of numbers that a law copies. -/
import Derived.Test.YtodnckflobefpaaTrKeep2
import Derived.DataShut
namespace Go.Proofs.Ytodnckflobefpaa
open Go.RowKit Go.Maps
set_option linter.unusedVariables false

theorem int_info : (Try.prog.info? 3).map (fun i => (i.zero, i.size, i.bytes)) = some (some (.int .i64 0), 1, 8) := by kernel_rfl
def ivs (l : List Int) : List Value := l.map fun x => Value.int .i64 x
theorem ivs_length (l : List Int) : (ivs l).length = l.length := by simp [ivs]
theorem ivs_get (l : List Int) (j : Nat) (h : j < l.length) : (ivs l)[j]? = some (.int .i64 (l.getD j 0)) := by simp [ivs, List.getD, h]
theorem iown_form {w : World} {B n : Nat} {v : Value} {xs : List Value} (h : w.ownsRow B 3 1 v n xs) : ∃ A c, v = .slice A n c := by
  rcases h.2 with ⟨hv, h0⟩ | ⟨g, cap, cur, hv, _⟩
  · exact ⟨none, 0, by rw [hv, h0]⟩
  · exact ⟨_, _, hv⟩
theorem int_append_nil (w : World) (ty : TypeId) (B : Nat) (v : Value) (n : Nat) (xs : List Value) (hown : w.ownsRow B 3 1 v n xs) (c : Nat) :
    (Builtin.append_ #[37, 37] ty #[v, .slice none 0 c]).run Try.prog w = .ok v w := by
  obtain ⟨i, hi, _, _, _⟩ := info_parts int_info
  rcases hown.2 with ⟨rfl, rfl⟩ | ⟨g, cap, cur, rfl, _, _, hnc, _⟩
  · simp [Builtin.append_, run_underlying Try.underlying37, sizeOf, typeInfo, hi, Builtin.lenOf, Builtin.firstCells]
  · simp [Builtin.append_, run_underlying Try.underlying37, sizeOf, typeInfo, hi, Builtin.lenOf, Builtin.firstCells, hnc, storeCells]
theorem Nums.nx {w w' : World} {A : Option Addr} {n c : Nat} {b : List Int} (h : Nums w A n c b) (k : Nx w w') : Nums w' A n c b := h.chd (M := fun _ => False) (Chd.of_below k) (fun _ _ _ _ e => e)
theorem int_append (w : World) (ty : TypeId) (B : Nat) (v : Value) (hown : w.ownsRow B 3 1 v 0 []) (hB : B ≤ w.heap.size)
    (A' : Option Addr) (m c' : Nat) (l' : List Int) (hr : Nums w A' m c' l') :
    ∃ v' w', (Builtin.append_ #[37, 37] ty #[v, .slice A' m c']).run Try.prog w = .ok v' w' ∧ w'.ownsRow B 3 1 v' m (ivs l') ∧ w.grownBy w' v.ownBlock := by
  obtain ⟨i, hi, hz, hs, hby⟩ := info_parts int_info
  have hl' := hr.len
  have hle := hr.le
  rcases Nat.eq_zero_or_pos m with hm | hm
  · subst hm
    obtain rfl : l' = [] := List.eq_nil_of_length_eq_zero hl'
    rcases A' with _ | ad
    · exact ⟨v, w, int_append_nil w ty B _ 0 _ hown c', hown, World.grownBy.refl w _⟩
    · obtain ⟨v', w', hrun, h2, h3, _, h5⟩ := run_append_own_at (P := Try.prog) w B 37 ty 3 i (.int .i64 0) 1 8 Try.underlying37 hi hz hs hby rfl (by decide) _ 0 _ hown ad 0 c' []
        rfl (by simp) (by simp) (by simp only [maxLen]; omega) (by omega) hB
      exact ⟨v', w', hrun, h2, h3⟩
  · obtain ⟨b, o, rfl, hlt, hc⟩ := hr.lies hm
    obtain ⟨v', w', hrun, h2, h3, _, h5⟩ := run_append_own_at (P := Try.prog) w B 37 ty 3 i (.int .i64 0) 1 8 Try.underlying37 hi hz hs hby rfl (by decide) _ 0 _ hown ⟨b, o, none⟩ m c' (ivs l')
      (by rw [ivs_length]; omega) (fun j u hu => by
        have hj : j < l'.length := by rw [← ivs_length]; exact (List.getElem?_eq_some_iff.1 hu).1
        rw [add_plain, hc j (by omega), ← ivs_get l' j hj, hu]) (fun u hu => by
          obtain ⟨x, _, rfl⟩ := List.mem_map.1 hu
          rfl) (by simp only [maxLen]; omega) (by omega) hB
    rw [Nat.zero_add] at h2
    exact ⟨v', w', hrun, h2, h3⟩
theorem ints_copy (w0 : World) (ty : TypeId) (A' : Option Addr) (m c' : Nat) (l' : List Int) (hr : Nums w0 A' m c' l') :
    ∃ A2 c2 w', (Builtin.append_ #[37, 37] ty #[.slice (some ⟨w0.heap.size, 0, none⟩) 0 0, .slice A' m c']).run Try.prog (w0.alloc (.cells #[] 3)) = .ok (.slice A2 m c2) w' ∧ Nums w' A2 m c2 l' ∧ (∀ j o, A2 = some ⟨j, o, none⟩ → w0.heap.size ≤ j) ∧ Nx w0 w' := by
  have b1 : Nx w0 (w0.alloc (.cells #[] 3)) := (Below.refl _ w0).alloc (Nat.le_refl _) _
  have hown := World.ownsRow_lit (e := 3) (size := 1) w0 #[] 0 (Nat.le_refl _) (Nat.zero_le _) rfl
  obtain ⟨v', w', hrun, h2, h3⟩ := int_append _ ty w0.heap.size _ hown (by simp) A' m c' l' (hr.nx b1)
  obtain ⟨A2, c2, rfl⟩ := iown_form h2
  refine ⟨A2, c2, w', hrun, ⟨hr.len, hr.le, hr.ok, fun hm => ?_⟩, fun j o e => ?_, ?_⟩
  · rcases h2.2 with ⟨hv, h0⟩ | ⟨g, cap, cur, hv, hb, hg, r⟩
    · omega
    · simp only [Value.slice.injEq] at hv
      obtain ⟨rfl, -, rfl⟩ := hv
      refine ⟨g, 0, rfl, (Array.getElem?_eq_some_iff.1 hg).1, fun i hi => ?_⟩
      have := World.ownsRow.cells (w := w') h2 (g := g) rfl i (.int .i64 (l'.getD i 0)) (ivs_get l' i (by rw [hr.len]; exact hi))
      rwa [add_plain] at this
  · rcases h2.2 with ⟨hv, h0⟩ | ⟨g, cap, cur, hv, hb, hg, r⟩
    · simp only [Value.slice.injEq] at hv
      rw [hv.1] at e; cases e
    · simp only [Value.slice.injEq] at hv
      rw [hv.1] at e
      simp only [Option.some.injEq, Addr.mk.injEq] at e
      omega
  · have c1 : Chd (fun j => j = w0.heap.size) w0 w' := (Chd.of_below b1).trans (Chd.of_grown h3)
    exact c1.below (Nat.le_refl _) (fun j hj e => by omega)
/-- append([]int{}, parts...). -/
theorem wpList_ints_copy {w0 : World} {ops : Array Oper} {rest : List Oper} {o : Oper} {a : Act} {Q : Exit → Act → World → Prop} (hgd : o.guard = none) (s x : Operand)
    (ho : o.op = .call { callee := .builtin .append, args := #[s, x], argTypes := #[37, 37] })
    (hs : a.eval s = .slice (some ⟨w0.heap.size, 0, none⟩) 0 0)
    (A' : Option Addr) (m c' : Nat) (l' : List Int) (hx : a.eval x = .slice A' m c') (hr : Nums w0 A' m c' l')
    (h : ∀ A2 c2 w', Nums w' A2 m c2 l' → (∀ j o, A2 = some ⟨j, o, none⟩ → w0.heap.size ≤ j) → Nx w0 w' → wpList Try.prog ops Q rest (a.put o.dst (.slice A2 m c2)) w') :
    wpList Try.prog ops Q (o :: rest) a (w0.alloc (.cells #[] 3)) := by
  refine wpList_plain hgd fun K hK => ?_
  obtain ⟨A2, c2, w', hrun, hN, hA, hx2⟩ := ints_copy w0 o.type A' m c' l' hr
  unfold Oper.wp execOp
  simp only [ho, resolve, invoke, builtin, Sem.run_bind, Sem.run_pure, Result.andThen_ok, List.map_toArray, List.map_cons, List.map_nil, hs, hx, hrun]
  exact hK _ _ (h A2 c2 w' hN hA hx2)
theorem wp_ints_copy {w0 : World} {o : Oper} {a : Act} {K : Act → World → Prop} {Q : Exit → Act → World → Prop} (s x : Operand)
    (ho : o.op = .call { callee := .builtin .append, args := #[s, x], argTypes := #[37, 37] })
    (hs : a.eval s = .slice (some ⟨w0.heap.size, 0, none⟩) 0 0)
    (A' : Option Addr) (m c' : Nat) (l' : List Int) (hx : a.eval x = .slice A' m c') (hr : Nums w0 A' m c' l')
    (h : ∀ A2 c2 w', Nums w' A2 m c2 l' → (∀ j o, A2 = some ⟨j, o, none⟩ → w0.heap.size ≤ j) → Nx w0 w' → K (a.put o.dst (.slice A2 m c2)) w') :
    o.wp Try.prog a (w0.alloc (.cells #[] 3)) K Q := by
  obtain ⟨A2, c2, w', hrun, hN, hA, hx2⟩ := ints_copy w0 o.type A' m c' l' hr
  unfold Oper.wp execOp
  simp only [ho, resolve, invoke, builtin, Sem.run_bind, Sem.run_pure, Result.andThen_ok, List.map_toArray, List.map_cons, List.map_nil, hs, hx, hrun]
  exact h A2 c2 w' hN hA hx2
/-- A slice of numbers that came in, as the shell of a law hands it over. -/
theorem row_nums {w : World} {a : Option Addr} {len cap : Nat} {zs : List Int}
    (h : (a = none ∧ len = 0 ∧ cap = 0 ∧ zs = []) ∨ ∃ x, a = some x ∧ len ≤ cap ∧ cap ≤ maxLen ∧ zs.length = cap ∧ (∀ i, i < zs.length → w.cell? (x.add i) = some (.int .i64 (zs.getD i 0))) ∧ ∀ n ∈ zs, (Lit.int .i64 n).wf = true) (hl : len ≤ 100000) :
    ∃ ps, Nums w a len cap ps := by
  rcases h with ⟨rfl, rfl, rfl, rfl⟩ | ⟨x, rfl, hlc, hm, hz, hcell, hwf⟩
  · exact ⟨[], nums_nil w⟩
  · refine ⟨zs.take len, by simp; omega, hl, fun i => ?_, fun hn => ?_⟩
    · simp only [List.getD]
      cases e : (zs.take len)[i]? with
      | none => simp
      | some v =>
        have hv := List.mem_of_mem_take (List.mem_of_getElem? e)
        have := ((Lit.wf_int_iff .i64 v).1 (hwf v hv)).2
        simp only [Option.getD_some]
        exact this
    · obtain ⟨b, o, spot⟩ := x
      have h0 := hcell 0 (by omega)
      have hs : spot = none := by simpa [Addr.add] using World.cell?_spot h0
      subst hs
      refine ⟨b, o, rfl, by simpa [add_plain] using World.block_lt_of_cell? w _ h0, fun i hi => ?_⟩
      have hc := hcell i (by omega)
      rw [add_plain] at hc
      rw [hc]
      simp only [List.getD, List.getElem?_take, if_pos hi]
theorem row_le {w : World} {a : Option Addr} {len cap : Nat} {zs : List Int}
    (h : (a = none ∧ len = 0 ∧ cap = 0 ∧ zs = []) ∨ ∃ x, a = some x ∧ len ≤ cap ∧ cap ≤ maxLen ∧ zs.length = cap ∧ (∀ i, i < zs.length → w.cell? (x.add i) = some (.int .i64 (zs.getD i 0))) ∧ ∀ n ∈ zs, (Lit.int .i64 n).wf = true) : len ≤ cap := by
  rcases h with ⟨_, rfl, rfl, _⟩ | ⟨x, _, h, _⟩
  · exact Nat.le_refl _
  · exact h
end Go.Proofs.Ytodnckflobefpaa

/- Package table, the reference: appends of slices of pairs; Get, Drop, Put. -/
import Derived.Test.YtekcphpeaoaaaaaTbRefA
namespace Go.Proofs.Ytekcphpeaoaaaaa
open Go.RowKit Go.Shelf
set_option linter.unusedVariables false

attribute [local go_sem] Oper.semAt_some

theorem run_append_none {P : Program} {w : World} (base : Nat) (t ty e : TypeId) (i : TypeInfo) (size c : Nat) (ht : P.underlying t = some (.slice e)) (hi : P.info? e = some i)
    (v : Value) (n : Nat) (xs : List Value) (hown : w.ownsRow base e size v n xs) :
    (Builtin.append_ #[t, t] ty #[v, .slice none 0 c]).run P w = .ok v w := by
  rcases hown.2 with ⟨rfl, rfl⟩ | ⟨g, cap, cur, rfl, _, _, hnc, _⟩
  · simp [Builtin.append_, run_underlying ht, sizeOf, typeInfo, hi, Builtin.lenOf, Builtin.firstCells]
  · simp [Builtin.append_, run_underlying ht, sizeOf, typeInfo, hi, Builtin.lenOf, Builtin.firstCells, hnc, storeCells]
theorem prsC_plain (l : List Pr) : ∀ u ∈ prsC l, u.oneCell' = true := by
  intro u hu
  obtain ⟨p, _, hp⟩ := List.mem_flatMap.1 hu
  have := prC_plain p u
  rw [prsC_one] at this
  exact this hp
/-- A slice of pairs is appended to a row. -/
theorem run_app (W : World) (B : Nat) (v x : Value) (a b : List Pr) (hv : Row W B v a) (hx : RdC W x b) (hn : a.length + b.length ≤ 1000000000) (hB : B ≤ W.heap.size) (ty : TypeId) :
    ∃ v' w', (Builtin.append_ #[33, 33] ty #[v, x]).run Try.prog W = .ok v' w' ∧ Row w' B v' (a ++ b) ∧ W.grownBy w' v.ownBlock := by
  obtain ⟨i0, hi, hz0, hz1, hz2⟩ := info_parts info_pair
  have key : ∀ (ad : Addr) (c : Nat), x = .slice (some ad) b.length c → (∀ (j : Nat) (u : Value), (prsC b)[j]? = some u → W.cell? (ad.add j) = some u) → ∃ v' w', (Builtin.append_ #[33, 33] ty #[v, x]).run Try.prog W = .ok v' w' ∧ Row w' B v' (a ++ b) ∧ W.grownBy w' v.ownBlock := fun ad c hxe hc => by
    subst hxe
    obtain ⟨v', w', h1, h2, h3, _⟩ := run_append_own (P := Try.prog) W B 33 ty 40 i0 _ 3 40 Try.underlying33 hi hz0 hz1 hz2 rfl (by decide) v a.length (prsC a) hv ad b.length c (prsC b) (prsC_length b) hc (prsC_plain b) (by unfold maxLen; omega) (by omega) hB
    exact ⟨v', w', h1, by unfold Row; rw [List.length_append, prsC_append]; exact h2, h3⟩
  obtain ⟨A, c, rfl, _, _, rfl | ⟨b', o, rfl, hc⟩⟩ := hx
  · cases A with
    | none => exact ⟨v, W, run_append_none B 33 ty 40 i0 3 c Try.underlying33 hi v a.length (prsC a) hv, by rw [List.append_nil]; exact hv, World.grownBy.refl W _⟩
    | some ad => exact key ad c rfl (fun j u hu => by simp [prsC] at hu)
  · exact key _ c rfl (fun j u hu => by rw [add_plain]; exact hc j u hu)
theorem wp_app {o : Oper} {a : Act} {K : Act → World → Prop} {Q : Exit → Act → World → Prop} {W : World} (s x : Operand)
    (ho : o.op = .call { callee := .builtin .append, args := #[s, x], argTypes := #[33, 33] })
    (B : Nat) (v xv : Value) (l m : List Pr) (hs : a.eval s = v) (hx : a.eval x = xv) (hv : Row W B v l) (hr : RdC W xv m) (hn : l.length + m.length ≤ 1000000000) (hB : B ≤ W.heap.size)
    (h : ∀ v' w', Row w' B v' (l ++ m) → W.grownBy w' v.ownBlock → K (a.put o.dst v') w') : o.wp Try.prog a W K Q := by
  obtain ⟨v', w', h1, h2, h3⟩ := run_app W B v xv l m hv hr hn hB o.type
  unfold Oper.wp execOp
  simp only [ho, resolve, invoke, builtin, Sem.run_bind, Sem.run_pure, Result.andThen_ok, List.map_toArray, List.map_cons, List.map_nil, hs, hx, h1]
  exact h v' w' h2 h3
/-- At a step of a region that draws its order. -/
theorem step_app {ops : Array Oper} {o : Oper} {a : Act} {K : Act → World → Prop} {Q : Exit → Act → World → Prop} {E : Prop} {W : World} (hgd : o.guard = none) (s x : Operand)
    (ho : o.op = .call { callee := .builtin .append, args := #[s, x], argTypes := #[33, 33] })
    (B : Nat) (v xv : Value) (l m : List Pr) (hs : a.eval s = v) (hx : a.eval x = xv) (hv : Row W B v l) (hr : RdC W xv m) (hn : l.length + m.length ≤ 1000000000) (hB : B ≤ W.heap.size)
    (h : ∀ v' w', Row w' B v' (l ++ m) → W.grownBy w' v.ownBlock → K (a.put o.dst v') w') :
    if Region.wanted o (yielded ops a.tmps) = true then Oper.wp Try.prog o a W K Q else E := by
  have hw : Region.wanted o (yielded ops a.tmps) = true := by simp [Region.wanted, hgd]
  rw [if_pos hw]
  exact wp_app s x ho B v xv l m hs hx hv hr hn hB h
theorem row_new (W : World) (B : Nat) (hB : B ≤ W.heap.size) : Row (W.alloc (.cells #[] 40)) B (.slice (some ⟨W.heap.size, 0, none⟩) 0 0) [] :=
  World.ownsRow_lit W #[] 0 hB (Nat.zero_le _) rfl
theorem RdC.take {w : World} {b o c : Nat} {l : List Pr} (h : RdC w (.slice (some ⟨b, o, none⟩) l.length c) l) (n : Nat) (hn : n ≤ l.length) : RdC w (.slice (some ⟨b, o, none⟩) n c) (l.take n) := by
  have h2 := RdC.sub (x := []) (y := l.take n) (z := l.drop n) (w := w) (b := b) (o := o) (c := c) (by simpa using h)
  have e : (l.take n).length = n := by rw [List.length_take]; omega
  rw [e] at h2
  simpa using h2
theorem RdC.dropN {w : World} {b o c : Nat} {l : List Pr} (h : RdC w (.slice (some ⟨b, o, none⟩) l.length c) l) (n : Nat) (hn : n ≤ l.length) (A' : Addr) (c' : Nat) (hA : (A' = ⟨b, o + n * 3, none⟩ ∧ c' = c - n) ∨ (l.length = n ∧ c' = 0)) : RdC w (.slice (some A') (l.length - n) c') (l.drop n) := by
  rcases hA with ⟨rfl, rfl⟩ | ⟨h1, rfl⟩
  · have h2 := RdC.sub (x := l.take n) (y := l.drop n) (z := []) (w := w) (b := b) (o := o) (c := c) (by simpa using h)
    have e : (l.take n).length = n := by rw [List.length_take]; omega
    rw [e, List.length_drop] at h2
    exact h2
  · rw [List.drop_eq_nil_of_le (by omega), h1, Nat.sub_self]
    exact ⟨_, _, rfl, Nat.zero_le _, by omega, .inl rfl⟩
theorem wpList_app {ops : Array Oper} {rest : List Oper} {o : Oper} {a : Act} {Q : Exit → Act → World → Prop} {W : World} (hgd : o.guard = none) (s x : Operand)
    (ho : o.op = .call { callee := .builtin .append, args := #[s, x], argTypes := #[33, 33] })
    (B : Nat) (v xv : Value) (l m : List Pr) (hs : a.eval s = v) (hx : a.eval x = xv) (hv : Row W B v l) (hr : RdC W xv m) (hn : l.length + m.length ≤ 1000000000) (hB : B ≤ W.heap.size)
    (h : ∀ v' w', Row w' B v' (l ++ m) → W.grownBy w' v.ownBlock → wpList Try.prog ops Q rest (a.put o.dst v') w') : wpList Try.prog ops Q (o :: rest) a W :=
  wpList_plain hgd fun K hK => by
    obtain ⟨v', w', h1, h2, h3⟩ := run_app W B v xv l m hv hr hn hB o.type
    unfold Oper.wp execOp
    simp only [ho, resolve, invoke, builtin, Sem.run_bind, Sem.run_pure, Result.andThen_ok, List.map_toArray, List.map_cons, List.map_nil, hs, hx, h1]
    exact hK _ _ (h v' w' h2 h3)
theorem hit_at (key : Str) (xs : List KV) : hit key xs = if h : place key xs < xs.length then decide ((xs[place key xs]'h).1 = key) else false := by
  unfold hit
  by_cases h : place key xs < xs.length
  · rw [dif_pos h, List.drop_eq_getElem_cons h]
    show (xs[place key xs].1 == key) = _
    by_cases e : xs[place key xs].1 = key <;> simp [e]
  · rw [dif_neg h, List.drop_eq_nil_of_le (by omega)]
theorem look_at (key : Str) (xs : List KV) : look key xs = if h : place key xs < xs.length then (if (xs[place key xs]'h).1 = key then some (xs[place key xs]'h).2 else none) else none := by
  unfold look
  by_cases h : place key xs < xs.length
  · rw [dif_pos h, List.drop_eq_getElem_cons h]
  · rw [dif_neg h, List.drop_eq_nil_of_le (by omega)]
theorem RdC.addr {w : World} {A : Option Addr} {n c : Nat} {l : List Pr} (h : RdC w (.slice A n c) l) (hn : 0 < l.length) : ∃ b o, A = some ⟨b, o, none⟩ := by
  obtain ⟨A', c', e, _, _, e5 | ⟨b, o, e5, _⟩⟩ := h
  · subst e5; cases hn
  · simp only [Value.slice.injEq] at e
    exact ⟨b, o, by rw [e.1, e5]⟩

set_option maxRecDepth 100000 in
theorem rget_any (w : World) (T' : Value) (xs : List KV) (key : Str) (h : Rt w T' xs) (hn : xs.length ≤ 100000000) :
    Calls Try.prog 17 #[T', .string (S key)] w fun e w' => e = .returned (getV (look key xs)) ∧ Nx w w' := by
  have HT := h
  obtain ⟨s, rfl, hr, _⟩ := h
  obtain ⟨A, c, rfl⟩ : ∃ A c, s = .slice A xs.length c := by
    obtain ⟨A, c, e, _⟩ := hr
    rw [List.length_map] at e
    exact ⟨A, c, e⟩
  obtain ⟨W, hW⟩ : ∃ W, w.alloc (.cells #[.slice A xs.length c] 36) = W := ⟨_, rfl⟩
  have n1 : Nx w W := by rw [← hW]; exact (Nx.refl w).alloc _
  have hb0 : BlkIs W w.heap.size 36 #[.slice A xs.length c] := by rw [← hW]; exact box_blk w _ _
  have c0 : W.cell? ⟨w.heap.size, 0, none⟩ = some (.slice A xs.length c) := by rw [hb0.cell]; rfl
  have PL := Lib.hid (rplace_any W _ xs key (HT.nx n1) hn)
  have N1 := Lib.hid n1
  have B0 := Lib.hid hb0
  have HR := Lib.hid (hr.nx n1)
  have hla := look_at key xs
  have hple := place_le key xs
  clear hr n1 hb0 HT
  go_enter Try.func17, Try.ntmps17
  go_wp2_with fail
  refine PL.out.mono ?_
  rintro e w2 ⟨rfl, hn2⟩
  have c2 : w2.cell? ⟨w.heap.size, 0, none⟩ = some (.slice A xs.length c) := by rw [(B0.out.nx hn2).cell]; rfl
  have N2 := Lib.hid (N1.out.trans hn2)
  have HR2 := Lib.hid (HR.out.nx hn2)
  clear PL hn2 c0 hW
  by_cases hlt : place key xs < xs.length
  · rw [dif_pos hlt] at hla
    obtain ⟨b, o, rfl⟩ := HR2.out.addr (by rw [List.length_map]; omega)
    obtain ⟨x0, x1, _⟩ := HR2.out.key _ hlt
    have e1 : ((place key xs : Int) == (xs.length : Int)) = false := by simp; omega
    have e3 : (0 : Int) ≤ (place key xs : Int) := by omega
    have e4 : (place key xs : Int) < (xs.length : Int) := by omega
    generalize xs[place key xs] = ev at *
    have hse := S_eq ev.1 key
    by_cases hk : ev.1 = key
    · rw [if_pos hk] at hla
      rw [decide_eq_true hk] at hse
      have HL := Lib.hid hla
      clear hla hple hlt hk
      generalize place key xs = pl at *
      go_wp2_with fail
      refine bodyPost_ret (results_tmp2 rfl _ _ _) rfl ?_
      exact ⟨by rw [HL.out]; rfl, N2.out⟩
    · rw [if_neg hk] at hla
      rw [decide_eq_false hk] at hse
      have HL := Lib.hid hla
      clear hla hple hlt hk
      generalize place key xs = pl at *
      go_wp2_with fail
      refine bodyPost_ret (results_tmp2 rfl _ _ _) rfl ?_
      exact ⟨by rw [HL.out]; rfl, N2.out⟩
  · rw [dif_neg hlt] at hla
    have e1 : ((place key xs : Int) == (xs.length : Int)) = true := by simp; omega
    have HL := Lib.hid hla
    clear hla hple hlt
    generalize place key xs = pl at *
    go_wp2_with fail
    refine bodyPost_ret (results_tmp2 rfl _ _ _) rfl ?_
    exact ⟨by rw [HL.out]; rfl, N2.out⟩
end Go.Proofs.Ytekcphpeaoaaaaa

/- Texts of one proof, laid together: TbRefA, TbRefB, TbRefC, TbRefP, TbRefO, TbRefR, TbHigh, TbPick, TbRefN. -/
import Derived.Test.YtekcphpeaoaaaaaTbChgP
import Derived.Test.YtekcphpeaoaaaaaTbRanks

/- Package table, the reference: Place, Get. -/
namespace Go.Proofs.Ytekcphpeaoaaaaa
open Go.RowKit Go.Shelf
set_option linter.unusedVariables false

attribute [local go_sem] Oper.semAt_some

/-- A table of the reference with these pairs. -/
def Pln (s : Value) : Prop := s = .slice none 0 0 ∨ ∃ b o n c, s = .slice (some ⟨b, o, none⟩) n c
theorem Row.pln {w : World} {B : Nat} {v : Value} {l : List Pr} (h : Row w B v l) : Pln v := by
  rcases h.2 with ⟨rfl, h0⟩ | ⟨g, cap, cur, rfl, _⟩
  · exact .inl rfl
  · exact .inr ⟨_, _, _, _, rfl⟩
def Rt (w : World) (T' : Value) (xs : List KV) : Prop := ∃ s, T' = .agg #[s] ∧ RdC w s (xs.map prOf) ∧ Pln s
theorem Rt.nx {w w' : World} {T' : Value} {xs : List KV} (h : Rt w T' xs) (k : Nx w w') : Rt w' T' xs := by
  obtain ⟨s, e, hr, hp⟩ := h
  exact ⟨s, e, hr.nx k, hp⟩
theorem Rt.zero (w : World) : Rt w (.agg #[.slice none 0 0]) [] := ⟨_, rfl, ⟨none, 0, rfl, Nat.le_refl _, by omega, .inl rfl⟩, .inl rfl⟩
theorem place_step (key : Str) (xs : List KV) (i : Nat) (h : i < xs.length) : place key (xs.drop i) = if lt xs[i].1 key then place key (xs.drop (i + 1)) + 1 else 0 := by
  rw [List.drop_eq_getElem_cons h]; rfl
/-- The cells of a table's element. -/
theorem RdC.key {w : World} {b o c n : Nat} {xs : List KV} (h : RdC w (.slice (some ⟨b, o, none⟩) n c) (xs.map prOf)) (i : Nat) (hi : i < xs.length) :
    w.cell? ⟨b, o + i * 3, none⟩ = some (.string (S xs[i].1)) ∧ w.cell? ⟨b, o + i * 3 + 1, none⟩ = some (.string (S xs[i].2)) ∧ w.cell? ⟨b, o + i * 3 + 2, none⟩ = some (.bool false) := by
  obtain ⟨A, c', e, _, _, e2 | ⟨b', o', e', hc⟩⟩ := h
  · rw [List.map_eq_nil_iff] at e2; subst e2; cases hi
  · simp only [Value.slice.injEq] at e
    obtain ⟨rfl, _, rfl⟩ := e
    simp only [Option.some.injEq, Addr.mk.injEq, and_true] at e'
    obtain ⟨rfl, rfl⟩ := e'
    have := Rd.cells hc i (by rw [List.length_map]; exact hi)
    rw [List.getElem_map] at this
    exact this

set_option maxRecDepth 100000 in
theorem rplace_any (w : World) (T' : Value) (xs : List KV) (key : Str) (h : Rt w T' xs) (hn : xs.length ≤ 100000000) :
    Calls Try.prog 26 #[T', .string (S key)] w fun e w' => e = .returned (.int .i64 (place key xs : Nat)) ∧ Nx w w' := by
  obtain ⟨s, rfl, hr, _⟩ := h
  obtain ⟨A, c, rfl⟩ : ∃ A c, s = .slice A xs.length c := by
    obtain ⟨A, c, e, _⟩ := hr
    rw [List.length_map] at e
    exact ⟨A, c, e⟩
  obtain ⟨W, hW⟩ : ∃ W, w.alloc (.cells #[.slice A xs.length c] 36) = W := ⟨_, rfl⟩
  have n1 : Nx w W := by rw [← hW]; exact (Nx.refl w).alloc _
  have hb0 : BlkIs W w.heap.size 36 #[.slice A xs.length c] := by rw [← hW]; exact box_blk w _ _
  have c0 : W.cell? ⟨w.heap.size, 0, none⟩ = some (.slice A xs.length c) := by rw [hb0.cell]; rfl
  have N1 := Lib.hid n1
  have HR := Lib.hid (hr.nx n1)
  clear hr n1 hb0
  go_enter Try.func26, Try.ntmps26
  go_wp2
  go_loopg [5] xs.length (fun n p5 wr => ∃ (i : Nat), p5 = .int .i64 (i : Int) ∧ W = wr ∧ Hid (i + n = xs.length ∧ i + place key (xs.drop i) = place key xs))
  case atStart => exact ⟨0, rfl, by first | rfl | exact hW, by omega, by simp⟩
  case round =>
    obtain ⟨i, rfl, rfl, hh⟩ := hrel
    obtain ⟨hi, hp⟩ := hh.out
    by_cases hlt : i < xs.length
    · have hst := place_step key xs i hlt
      have e2 : decide ((i : Int) < (xs.length : Int)) = true := by simpa using hlt
      have e3 : (0 : Int) ≤ (i : Int) := by omega
      have e4 : (i : Int) < (xs.length : Int) := by omega
      obtain ⟨b, o, rfl⟩ : ∃ b o, A = some ⟨b, o, none⟩ := by
        obtain ⟨A', c', e, _, _, e5 | ⟨b, o, e5, _⟩⟩ := HR.out
        · rw [List.map_eq_nil_iff] at e5; subst e5; cases hlt
        · simp only [Value.slice.injEq] at e
          exact ⟨b, o, by rw [e.1, e5]⟩
      have x0 := (HR.out.key i hlt).1
      generalize xs[i] = ev at *
      have hw : IntKind.i64.wrap ((i : Int) + 1) = (i : Int) + 1 := IntWalk.i64_in _ (by omega)
      by_cases hl : lt ev.1 key = true
      · rw [if_pos hl] at hst
        have d1 : Op.bytesLess (S ev.1).toList (S key).toList = true := by rw [S_lt]; exact hl
        have NXT : Hid (gk - 1 < gk ∧ i + 1 + (gk - 1) = xs.length ∧ i + 1 + place key (xs.drop (i + 1)) = place key xs) := ⟨by omega, by omega, by omega⟩
        clear hh hi hp hst hlt hl
        go_wp2
        go_roundg (gk - 1)
        case measure => exact NXT.out.1
        case rel => exact ⟨i + 1, by push_cast; rfl, rfl, NXT.out.2⟩
      · rw [if_neg hl] at hst
        have d1 : Op.bytesLess (S ev.1).toList (S key).toList = false := by rw [S_lt]; simpa using hl
        have HE : Hid ((i : Int) = (place key xs : Nat)) := by show _ = _; omega
        clear hh hi hp hst hlt hl
        go_wp2
        go_ret
        exact ⟨by rw [HE.out]; rfl, N1.out⟩
    · have e2 : decide ((i : Int) < (xs.length : Int)) = false := by simpa using hlt
      have e3 : decide (i < xs.length) = false := by simpa using hlt
      have HE : Hid ((i : Int) = (place key xs : Nat)) := by
        have h1 : xs.drop i = [] := List.drop_eq_nil_of_le (by omega)
        rw [h1] at hp
        have h2 : place key ([] : List KV) = 0 := rfl
        show _ = _
        omega
      clear hh hi hp hlt
      go_wp2
      go_ret
      exact ⟨by rw [HE.out]; rfl, N1.out⟩
end Go.Proofs.Ytekcphpeaoaaaaa

/- Package table, the reference: appends of slices of pairs; Get, Drop, Put. -/
namespace Go.Proofs.Ytekcphpeaoaaaaa
open Go.RowKit Go.Shelf
set_option linter.unusedVariables false

attribute [local go_sem] Oper.semAt_some

theorem run_append_none {P : Program} {w : World} (base : Nat) (t ty e : TypeId) (i : TypeInfo) (size c : Nat) (ht : P.underlying t = some (.slice e)) (hi : P.info? e = some i)
    (v : Value) (n : Nat) (xs : List Value) (hown : w.ownsRow base e size v n xs) :
    (Builtin.append_ #[t, t] ty #[v, .slice none 0 c]).run P w = .ok v w := by
  rcases hown.2 with ⟨rfl, rfl⟩ | ⟨g, cap, cur, rfl, _, _, hnc, _⟩
  · simp [Builtin.append_, run_underlying ht, sizeOf, typeInfo, hi, Builtin.lenOf, Builtin.firstCells]
  · simp [Builtin.append_, run_underlying ht, sizeOf, typeInfo, hi, Builtin.lenOf, Builtin.firstCells, hnc, storeCells]
theorem prsC_plain (l : List Pr) : ∀ u ∈ prsC l, u.oneCell' = true := by
  intro u hu
  obtain ⟨p, _, hp⟩ := List.mem_flatMap.1 hu
  have := prC_plain p u
  rw [prsC_one] at this
  exact this hp
/-- A slice of pairs is appended to a row. -/
theorem run_app (W : World) (B : Nat) (v x : Value) (a b : List Pr) (hv : Row W B v a) (hx : RdC W x b) (hn : a.length + b.length ≤ 1000000000) (hB : B ≤ W.heap.size) (ty : TypeId) :
    ∃ v' w', (Builtin.append_ #[33, 33] ty #[v, x]).run Try.prog W = .ok v' w' ∧ Row w' B v' (a ++ b) ∧ W.grownBy w' v.ownBlock := by
  obtain ⟨i0, hi, hz0, hz1, hz2⟩ := info_parts info_pair
  have key : ∀ (ad : Addr) (c : Nat), x = .slice (some ad) b.length c → (∀ (j : Nat) (u : Value), (prsC b)[j]? = some u → W.cell? (ad.add j) = some u) → ∃ v' w', (Builtin.append_ #[33, 33] ty #[v, x]).run Try.prog W = .ok v' w' ∧ Row w' B v' (a ++ b) ∧ W.grownBy w' v.ownBlock := fun ad c hxe hc => by
    subst hxe
    obtain ⟨v', w', h1, h2, h3, _⟩ := run_append_own (P := Try.prog) W B 33 ty 40 i0 _ 3 40 Try.underlying33 hi hz0 hz1 hz2 rfl (by decide) v a.length (prsC a) hv ad b.length c (prsC b) (prsC_length b) hc (prsC_plain b) (by unfold maxLen; omega) (by omega) hB
    exact ⟨v', w', h1, by unfold Row; rw [List.length_append, prsC_append]; exact h2, h3⟩
  obtain ⟨A, c, rfl, _, _, rfl | ⟨b', o, rfl, hc⟩⟩ := hx
  · cases A with
    | none => exact ⟨v, W, run_append_none B 33 ty 40 i0 3 c Try.underlying33 hi v a.length (prsC a) hv, by rw [List.append_nil]; exact hv, World.grownBy.refl W _⟩
    | some ad => exact key ad c rfl (fun j u hu => by simp [prsC] at hu)
  · exact key _ c rfl (fun j u hu => by rw [add_plain]; exact hc j u hu)
theorem wp_app {o : Oper} {a : Act} {K : Act → World → Prop} {Q : Exit → Act → World → Prop} {W : World} (s x : Operand)
    (ho : o.op = .call { callee := .builtin .append, args := #[s, x], argTypes := #[33, 33] })
    (B : Nat) (v xv : Value) (l m : List Pr) (hs : a.eval s = v) (hx : a.eval x = xv) (hv : Row W B v l) (hr : RdC W xv m) (hn : l.length + m.length ≤ 1000000000) (hB : B ≤ W.heap.size)
    (h : ∀ v' w', Row w' B v' (l ++ m) → W.grownBy w' v.ownBlock → K (a.put o.dst v') w') : o.wp Try.prog a W K Q := by
  obtain ⟨v', w', h1, h2, h3⟩ := run_app W B v xv l m hv hr hn hB o.type
  unfold Oper.wp execOp
  simp only [ho, resolve, invoke, builtin, Sem.run_bind, Sem.run_pure, Result.andThen_ok, List.map_toArray, List.map_cons, List.map_nil, hs, hx, h1]
  exact h v' w' h2 h3
/-- At a step of a region that draws its order. -/
theorem step_app {ops : Array Oper} {o : Oper} {a : Act} {K : Act → World → Prop} {Q : Exit → Act → World → Prop} {E : Prop} {W : World} (hgd : o.guard = none) (s x : Operand)
    (ho : o.op = .call { callee := .builtin .append, args := #[s, x], argTypes := #[33, 33] })
    (B : Nat) (v xv : Value) (l m : List Pr) (hs : a.eval s = v) (hx : a.eval x = xv) (hv : Row W B v l) (hr : RdC W xv m) (hn : l.length + m.length ≤ 1000000000) (hB : B ≤ W.heap.size)
    (h : ∀ v' w', Row w' B v' (l ++ m) → W.grownBy w' v.ownBlock → K (a.put o.dst v') w') :
    if Region.wanted o (yielded ops a.tmps) = true then Oper.wp Try.prog o a W K Q else E := by
  have hw : Region.wanted o (yielded ops a.tmps) = true := by simp [Region.wanted, hgd]
  rw [if_pos hw]
  exact wp_app s x ho B v xv l m hs hx hv hr hn hB h
theorem row_new (W : World) (B : Nat) (hB : B ≤ W.heap.size) : Row (W.alloc (.cells #[] 40)) B (.slice (some ⟨W.heap.size, 0, none⟩) 0 0) [] :=
  World.ownsRow_lit W #[] 0 hB (Nat.zero_le _) rfl
theorem RdC.take {w : World} {b o c : Nat} {l : List Pr} (h : RdC w (.slice (some ⟨b, o, none⟩) l.length c) l) (n : Nat) (hn : n ≤ l.length) : RdC w (.slice (some ⟨b, o, none⟩) n c) (l.take n) := by
  have h2 := RdC.sub (x := []) (y := l.take n) (z := l.drop n) (w := w) (b := b) (o := o) (c := c) (by simpa using h)
  have e : (l.take n).length = n := by rw [List.length_take]; omega
  rw [e] at h2
  simpa using h2
theorem RdC.dropN {w : World} {b o c : Nat} {l : List Pr} (h : RdC w (.slice (some ⟨b, o, none⟩) l.length c) l) (n : Nat) (hn : n ≤ l.length) (A' : Addr) (c' : Nat) (hA : (A' = ⟨b, o + n * 3, none⟩ ∧ c' = c - n) ∨ (l.length = n ∧ c' = 0)) : RdC w (.slice (some A') (l.length - n) c') (l.drop n) := by
  rcases hA with ⟨rfl, rfl⟩ | ⟨h1, rfl⟩
  · have h2 := RdC.sub (x := l.take n) (y := l.drop n) (z := []) (w := w) (b := b) (o := o) (c := c) (by simpa using h)
    have e : (l.take n).length = n := by rw [List.length_take]; omega
    rw [e, List.length_drop] at h2
    exact h2
  · rw [List.drop_eq_nil_of_le (by omega), h1, Nat.sub_self]
    exact ⟨_, _, rfl, Nat.zero_le _, by omega, .inl rfl⟩
theorem wpList_app {ops : Array Oper} {rest : List Oper} {o : Oper} {a : Act} {Q : Exit → Act → World → Prop} {W : World} (hgd : o.guard = none) (s x : Operand)
    (ho : o.op = .call { callee := .builtin .append, args := #[s, x], argTypes := #[33, 33] })
    (B : Nat) (v xv : Value) (l m : List Pr) (hs : a.eval s = v) (hx : a.eval x = xv) (hv : Row W B v l) (hr : RdC W xv m) (hn : l.length + m.length ≤ 1000000000) (hB : B ≤ W.heap.size)
    (h : ∀ v' w', Row w' B v' (l ++ m) → W.grownBy w' v.ownBlock → wpList Try.prog ops Q rest (a.put o.dst v') w') : wpList Try.prog ops Q (o :: rest) a W :=
  wpList_plain hgd fun K hK => by
    obtain ⟨v', w', h1, h2, h3⟩ := run_app W B v xv l m hv hr hn hB o.type
    unfold Oper.wp execOp
    simp only [ho, resolve, invoke, builtin, Sem.run_bind, Sem.run_pure, Result.andThen_ok, List.map_toArray, List.map_cons, List.map_nil, hs, hx, h1]
    exact hK _ _ (h v' w' h2 h3)
theorem hit_at (key : Str) (xs : List KV) : hit key xs = if h : place key xs < xs.length then decide ((xs[place key xs]'h).1 = key) else false := by
  unfold hit
  by_cases h : place key xs < xs.length
  · rw [dif_pos h, List.drop_eq_getElem_cons h]
    show (xs[place key xs].1 == key) = _
    by_cases e : xs[place key xs].1 = key <;> simp [e]
  · rw [dif_neg h, List.drop_eq_nil_of_le (by omega)]
theorem look_at (key : Str) (xs : List KV) : look key xs = if h : place key xs < xs.length then (if (xs[place key xs]'h).1 = key then some (xs[place key xs]'h).2 else none) else none := by
  unfold look
  by_cases h : place key xs < xs.length
  · rw [dif_pos h, List.drop_eq_getElem_cons h]
  · rw [dif_neg h, List.drop_eq_nil_of_le (by omega)]
theorem RdC.addr {w : World} {A : Option Addr} {n c : Nat} {l : List Pr} (h : RdC w (.slice A n c) l) (hn : 0 < l.length) : ∃ b o, A = some ⟨b, o, none⟩ := by
  obtain ⟨A', c', e, _, _, e5 | ⟨b, o, e5, _⟩⟩ := h
  · subst e5; cases hn
  · simp only [Value.slice.injEq] at e
    exact ⟨b, o, by rw [e.1, e5]⟩

set_option maxRecDepth 100000 in
theorem rget_any (w : World) (T' : Value) (xs : List KV) (key : Str) (h : Rt w T' xs) (hn : xs.length ≤ 100000000) :
    Calls Try.prog 17 #[T', .string (S key)] w fun e w' => e = .returned (getV (look key xs)) ∧ Nx w w' := by
  have HT := h
  obtain ⟨s, rfl, hr, _⟩ := h
  obtain ⟨A, c, rfl⟩ : ∃ A c, s = .slice A xs.length c := by
    obtain ⟨A, c, e, _⟩ := hr
    rw [List.length_map] at e
    exact ⟨A, c, e⟩
  obtain ⟨W, hW⟩ : ∃ W, w.alloc (.cells #[.slice A xs.length c] 36) = W := ⟨_, rfl⟩
  have n1 : Nx w W := by rw [← hW]; exact (Nx.refl w).alloc _
  have hb0 : BlkIs W w.heap.size 36 #[.slice A xs.length c] := by rw [← hW]; exact box_blk w _ _
  have c0 : W.cell? ⟨w.heap.size, 0, none⟩ = some (.slice A xs.length c) := by rw [hb0.cell]; rfl
  have PL := Lib.hid (rplace_any W _ xs key (HT.nx n1) hn)
  have N1 := Lib.hid n1
  have B0 := Lib.hid hb0
  have HR := Lib.hid (hr.nx n1)
  have hla := look_at key xs
  have hple := place_le key xs
  clear hr n1 hb0 HT
  go_enter Try.func17, Try.ntmps17
  go_wp2_with fail
  refine PL.out.mono ?_
  rintro e w2 ⟨rfl, hn2⟩
  have c2 : w2.cell? ⟨w.heap.size, 0, none⟩ = some (.slice A xs.length c) := by rw [(B0.out.nx hn2).cell]; rfl
  have N2 := Lib.hid (N1.out.trans hn2)
  have HR2 := Lib.hid (HR.out.nx hn2)
  clear PL hn2 c0 hW
  by_cases hlt : place key xs < xs.length
  · rw [dif_pos hlt] at hla
    obtain ⟨b, o, rfl⟩ := HR2.out.addr (by rw [List.length_map]; omega)
    obtain ⟨x0, x1, _⟩ := HR2.out.key _ hlt
    have e1 : ((place key xs : Int) == (xs.length : Int)) = false := by simp; omega
    have e3 : (0 : Int) ≤ (place key xs : Int) := by omega
    have e4 : (place key xs : Int) < (xs.length : Int) := by omega
    generalize xs[place key xs] = ev at *
    have hse := S_eq ev.1 key
    by_cases hk : ev.1 = key
    · rw [if_pos hk] at hla
      rw [decide_eq_true hk] at hse
      have HL := Lib.hid hla
      clear hla hple hlt hk
      generalize place key xs = pl at *
      go_wp2_with fail
      refine bodyPost_ret (results_tmp2 rfl _ _ _) rfl ?_
      exact ⟨by rw [HL.out]; rfl, N2.out⟩
    · rw [if_neg hk] at hla
      rw [decide_eq_false hk] at hse
      have HL := Lib.hid hla
      clear hla hple hlt hk
      generalize place key xs = pl at *
      go_wp2_with fail
      refine bodyPost_ret (results_tmp2 rfl _ _ _) rfl ?_
      exact ⟨by rw [HL.out]; rfl, N2.out⟩
  · rw [dif_neg hlt] at hla
    have e1 : ((place key xs : Int) == (xs.length : Int)) = true := by simp; omega
    have HL := Lib.hid hla
    clear hla hple hlt
    generalize place key xs = pl at *
    go_wp2_with fail
    refine bodyPost_ret (results_tmp2 rfl _ _ _) rfl ?_
    exact ⟨by rw [HL.out]; rfl, N2.out⟩
end Go.Proofs.Ytekcphpeaoaaaaa

/- Package table, the reference: Drop. -/
namespace Go.Proofs.Ytekcphpeaoaaaaa
open Go.RowKit Go.Shelf
set_option linter.unusedVariables false

attribute [local go_sem] Oper.semAt_some

set_option maxRecDepth 100000 in
set_option maxHeartbeats 1000000 in
theorem rdrop_any (w : World) (T' : Value) (xs : List KV) (key : Str) (h : Rt w T' xs) (hn : xs.length ≤ 100000000) :
    Calls Try.prog 44 #[T', .string (S key)] w (Ret fun r w' => Rt w' r (era key xs) ∧ Nx w w') := by
  have HT := h
  obtain ⟨s, rfl, hr, _⟩ := h
  obtain ⟨A, c, rfl⟩ : ∃ A c, s = .slice A xs.length c := by
    obtain ⟨A, c, e, _⟩ := hr
    rw [List.length_map] at e
    exact ⟨A, c, e⟩
  obtain ⟨W, hW⟩ : ∃ W, (w.alloc (.cells #[.slice A xs.length c] 36)).alloc (.cells #[.slice none 0 0] 36) = W := ⟨_, rfl⟩
  have n1 : Nx w W := by rw [← hW]; exact ((Nx.refl w).alloc _).alloc _
  have hb0 : BlkIs W w.heap.size 36 #[.slice A xs.length c] := by rw [← hW]; exact (box_blk w _ _).nx ((Nx.refl _).alloc _)
  have hb1 : BlkIs W (w.heap.size + 1) 36 #[.slice none 0 0] := by
    rw [← hW]
    have := box_blk (w.alloc (.cells #[.slice A xs.length c] 36)) (.slice none 0 0) 36
    rwa [World.size_alloc] at this
  have c0 : W.cell? ⟨w.heap.size, 0, none⟩ = some (.slice A xs.length c) := by rw [hb0.cell]; rfl
  have PL := Lib.hid (rplace_any W _ xs key (HT.nx n1) hn)
  have N1 := Lib.hid n1
  have B0 := Lib.hid hb0
  have B1 := Lib.hid hb1
  have HR := Lib.hid (hr.nx n1)
  have hla := hit_at key xs
  have hple := place_le key xs
  have HER : Hid (era key xs = if hit key xs then xs.take (place key xs) ++ xs.drop (place key xs + 1) else xs) := rfl
  have HT0 := Lib.hid HT
  have HRW := Lib.hid hr
  clear hr n1 hb0 hb1 HT
  go_enter Try.func44, Try.ntmps44
  go_wp2_with fail
  refine PL.out.mono ?_
  rintro e w2 ⟨rfl, hn2⟩
  have b2 := B0.out.nx hn2
  have b3 := B1.out.nx hn2
  have c2 : w2.cell? ⟨w.heap.size, 0, none⟩ = some (.slice A xs.length c) := by rw [b2.cell]; rfl
  have c3 : w2.cell? ⟨w.heap.size + 1, 0, none⟩ = some (.slice none 0 0) := by rw [b3.cell]; rfl
  have f3 := b3.frozen 0
  have n2 : Nx w w2 := N1.out.trans hn2
  have HR2 := Lib.hid (HR.out.nx hn2)
  have s2 := n2.size
  have z2 : w.heap.size + 2 ≤ w2.heap.size := by have := b3.lt; omega
  have KEEP : Hid (BlkIs (w2.setCell ⟨w.heap.size + 1, 0, none⟩ (.slice A xs.length c)) (w.heap.size + 1) 36 #[.slice A xs.length c] ∧ Rt (w2.setCell ⟨w.heap.size + 1, 0, none⟩ (.slice A xs.length c)) (.agg #[.slice A xs.length c]) xs ∧ Nx w (w2.setCell ⟨w.heap.size + 1, 0, none⟩ (.slice A xs.length c))) := by
    have n3 := n2.set (w.heap.size + 1) 0 (.slice A xs.length c) (by omega)
    exact ⟨b3.set 0 _, HT0.out.nx n3, n3⟩
  have NEW : Hid (∀ V v' (L : List KV), Row V w2.heap.size v' (L.map prOf) → Nx w2 V → V.cell? ⟨w.heap.size + 1, 0, none⟩ = some (.slice none 0 0) ∧ V.frozen? ⟨w.heap.size + 1, 0, none⟩ = false ∧ BlkIs (V.setCell ⟨w.heap.size + 1, 0, none⟩ v') (w.heap.size + 1) 36 #[v'] ∧ Rt (V.setCell ⟨w.heap.size + 1, 0, none⟩ v') (.agg #[v']) L ∧ Nx w (V.setCell ⟨w.heap.size + 1, 0, none⟩ v')) := fun V v' L hrow hV => by
    have b4 := b3.nx hV
    refine ⟨by rw [b4.cell]; rfl, b4.frozen 0, b4.set 0 _, ⟨v', rfl, Row.rdc (B := w2.heap.size) (row_of_blk hrow fun j hj => ?_), hrow.pln⟩, (n2.trans hV).set _ 0 _ (by omega)⟩
    have := (own_row_blk' hrow hj).1
    exact (Chd.set V (w.heap.size + 1) 0 v').block j (by
      obtain ⟨_, cs, hc⟩ := own_row_blk' hrow hj
      exact hc.lt) (by omega)
  have HB2 := Lib.hid b2
  have HN2 := Lib.hid n2
  clear PL hn2 hW c0 b2 b3 n2 s2
  by_cases hlt : place key xs < xs.length
  · rw [dif_pos hlt] at hla
    obtain ⟨b, o, rfl⟩ := HR2.out.addr (by rw [List.length_map]; omega)
    have hcap : xs.length ≤ c ∧ c ≤ 9223372036854775807 := by
      obtain ⟨A', c', e, h1, h2, _⟩ := HR2.out
      rw [List.length_map] at e h1
      simp only [Value.slice.injEq] at e
      obtain ⟨_, _, rfl⟩ := e
      exact ⟨h1, h2⟩
    obtain ⟨x0, x1, _⟩ := HR2.out.key _ hlt
    have e1 : ((place key xs : Int) == (xs.length : Int)) = false := by simp; omega
    have e3 : (0 : Int) ≤ (place key xs : Int) := by omega
    have e4 : (place key xs : Int) < (xs.length : Int) := by omega
    generalize xs[place key xs] = ev at *
    have hse := S_eq ev.1 key
    by_cases hk : ev.1 = key
    · rw [decide_eq_true hk] at hla hse
      have hER := HER.out
      rw [hla, if_pos rfl] at hER
      have TK := Lib.hid (RdC.take (by have := HRW.out; rwa [show xs.length = (xs.map prOf).length from (List.length_map ..).symm] at this) (place key xs) (by rw [List.length_map]; omega))
      have DP := Lib.hid (fun A' c' => RdC.dropN (by have := HRW.out; rwa [show xs.length = (xs.map prOf).length from (List.length_map ..).symm] at this) (place key xs + 1) (by rw [List.length_map]; omega) A' c')
      have g1 : (place key xs : Int) ≤ (c : Int) := by omega
      have g2 : IntKind.i64.wrap ((place key xs : Int) + 1) = (place key xs : Int) + 1 := IntWalk.i64_in _ (by omega)
      have g3 : (0 : Int) ≤ (place key xs : Int) + 1 := by omega
      have g4 : (place key xs : Int) + 1 ≤ (xs.length : Int) := by omega
      have g5 : (xs.length : Int) ≤ (c : Int) := by omega
      have HE := Lib.hid hER
      clear hER hla hk hple KEEP
      generalize place key xs = pl at *
      have XL : Hid ((xs.map prOf).length = xs.length ∧ pl < xs.length ∧ xs.length ≤ 100000000) := ⟨List.length_map .., hlt, hn⟩
      have GR : Hid (∀ (V V' : World) (v : Value) (l : List Pr), Row V w2.heap.size v l → V.grownBy V' v.ownBlock → w2.heap.size ≤ V.heap.size → Below w2.heap.size V V') := fun V V' v l h1 h2 h3 => (Chd.of_grown h2).below h3 fun j hj e => by have := (own_row_blk' h1 e).1; omega
      clear hlt hcap hn
      have hpn : pl ≤ xs.length := by have := XL.out; omega
      have hnc : xs.length ≤ c := by omega
      have hpl1 : pl + 1 ≤ xs.length := by have := XL.out; omega
      have DP2 : Hid (∀ (A' : Addr) (c' : Nat), (A' = ⟨b, o + (pl + 1) * 3, none⟩ ∧ c' = c - (pl + 1)) ∨ (xs.length = pl + 1 ∧ c' = 0) → RdC w (.slice (some A') (xs.length - (pl + 1)) c') ((xs.map prOf).drop (pl + 1))) := fun A' c' h => by
        have h2 := DP.out A' c' (h.imp id fun ⟨h1, h2⟩ => ⟨by rw [List.length_map]; exact h1, h2⟩)
        rwa [List.length_map] at h2
      have N3 : Hid (Nx w2 (w2.drew.alloc (.cells #[] 40))) := ((Nx.refl w2).drew).alloc _
      have HL9 : Hid (([] ++ (xs.map prOf).take pl ++ (xs.map prOf).drop (pl + 1)).length = pl + (xs.length - (pl + 1))) := by
        show _ = _
        simp only [List.nil_append, List.length_append, List.length_take, List.length_drop, List.length_map]; omega
      by_cases hc : c = pl + 1
      · subst hc
        have q1 : (pl : Int) ≤ (pl : Int) + 1 := by omega
        have q2 : pl ≤ pl + 1 := by omega
        have hX : Hid (xs.length = pl + 1) := by show _ = _; omega
        have hz : Hid (xs.length - (pl + 1) = 0) := by show _ = _; omega
        have HLX : Hid (([] ++ (xs.map prOf).take pl ++ (xs.map prOf).drop (pl + 1)).length = pl) := by show _ = _; rw [HL9.out, hz.out]; rfl
        have DP3 : Hid (RdC w (.slice (some ⟨b, o, none⟩) 0 0) ((xs.map prOf).drop (pl + 1))) := by
          have h := DP2.out ⟨b, o, none⟩ 0 (.inr ⟨hX.out, rfl⟩)
          rwa [hz.out] at h
        go_wp2_with fail
        go_region_held3 (fun V => V.cell? ⟨w.heap.size, 0, none⟩ = some (.slice (some ⟨b, o, none⟩) xs.length (pl + 1)))
          (first | (rw [(HB2.out.nx n4).cell]; rfl) | (rw [(HB2.out.nx n3).cell]; rfl) | go_keep)
          ((first
            | (refine step_app rfl _ _ rfl w2.heap.size (.slice (some ⟨w2.heap.size, 0, none⟩) 0 0) _ [] _ rfl rfl (row_new w2.drew w2.heap.size (Nat.le_refl _)) (TK.out.nx (HN2.out.trans N3.out)) (by rw [List.length_take]; have := XL.out; simp only [List.length_nil]; omega) (by simp) ?_; intro v1 w3 hrow1 hg1; have n3 : Nx w2 w3 := Below.trans N3.out (GR.out _ _ _ _ (row_new w2.drew w2.heap.size (Nat.le_refl _)) hg1 (by simp)))
            | (refine step_app rfl _ _ rfl w2.heap.size v1 _ ([] ++ (xs.map prOf).take pl) ((xs.map prOf).drop (pl + 1)) rfl rfl hrow1 (DP3.out.nx (HN2.out.trans n3)) (by rw [List.length_append, List.length_take, List.length_drop]; have := XL.out; simp only [List.length_nil]; omega) n3.size ?_; intro v2 w4 hrow2 hg2; obtain ⟨A9, c9, rfl⟩ := own_slice hrow2; have n4 : Nx w2 w4 := Below.trans n3 (GR.out _ _ _ _ hrow1 hg2 n3.size); obtain ⟨k1, k2, k3, k4⟩ := NEW.out w4 _ (xs.take pl ++ xs.drop (pl + 1)) (by rw [List.map_append, List.map_take, List.map_drop]; exact hrow2) n4; rw [HLX.out] at k3 k4; have K3 := Lib.hid k3; have K4 := Lib.hid k4; clear k3 k4)))
        clear k1 k2
        go_wp2_with fail
        refine bodyPost_ret (results_cell_row rfl _ _ (w.heap.size + 1) 36 #[.slice A9 pl c9] (0, 0) _ rfl K3.out Try.underlying36 rfl (by kernel_rfl)) rfl ?_
        exact ⟨_, rfl, by rw [HE.out]; exact K4.out⟩
      · go_wp2_with fail
        go_region_held3 (fun V => V.cell? ⟨w.heap.size, 0, none⟩ = some (.slice (some ⟨b, o, none⟩) xs.length c))
          (first | (rw [(HB2.out.nx n4).cell]; rfl) | (rw [(HB2.out.nx n3).cell]; rfl) | go_keep)
          ((first
            | (refine step_app rfl _ _ rfl w2.heap.size (.slice (some ⟨w2.heap.size, 0, none⟩) 0 0) _ [] _ rfl rfl (row_new w2.drew w2.heap.size (Nat.le_refl _)) (TK.out.nx (HN2.out.trans N3.out)) (by rw [List.length_take]; have := XL.out; simp only [List.length_nil]; omega) (by simp) ?_; intro v1 w3 hrow1 hg1; have n3 : Nx w2 w3 := Below.trans N3.out (GR.out _ _ _ _ (row_new w2.drew w2.heap.size (Nat.le_refl _)) hg1 (by simp)))
            | (refine step_app rfl _ _ rfl w2.heap.size v1 _ ([] ++ (xs.map prOf).take pl) ((xs.map prOf).drop (pl + 1)) rfl rfl hrow1 ((DP2.out ⟨b, o + (pl + 1) * 3, none⟩ (c - (pl + 1)) (.inl ⟨rfl, rfl⟩)).nx (HN2.out.trans n3)) (by rw [List.length_append, List.length_take, List.length_drop]; have := XL.out; simp only [List.length_nil]; omega) n3.size ?_; intro v2 w4 hrow2 hg2; obtain ⟨A9, c9, rfl⟩ := own_slice hrow2; have n4 : Nx w2 w4 := Below.trans n3 (GR.out _ _ _ _ hrow1 hg2 n3.size); obtain ⟨k1, k2, k3, k4⟩ := NEW.out w4 _ (xs.take pl ++ xs.drop (pl + 1)) (by rw [List.map_append, List.map_take, List.map_drop]; exact hrow2) n4; rw [HL9.out] at k3 k4; have K3 := Lib.hid k3; have K4 := Lib.hid k4; clear k3 k4)))
        clear k1 k2
        go_wp2_with fail
        refine bodyPost_ret (results_cell_row rfl _ _ (w.heap.size + 1) 36 #[.slice A9 (pl + (xs.length - (pl + 1))) c9] (0, 0) _ rfl K3.out Try.underlying36 rfl (by kernel_rfl)) rfl ?_
        exact ⟨_, rfl, by rw [HE.out]; exact K4.out⟩
    · rw [decide_eq_false hk] at hla hse
      have hER : Hid (era key xs = xs) := by have h := HER.out; rw [hla] at h; exact h
      clear hla hk hple
      generalize place key xs = pl at *
      go_wp2_with fail
      refine bodyPost_ret (results_cell_row rfl _ _ (w.heap.size + 1) 36 #[.slice (some ⟨b, o, none⟩) xs.length c] (0, 0) _ rfl KEEP.out.1 Try.underlying36 rfl (by kernel_rfl)) rfl ?_
      exact ⟨_, rfl, by rw [hER.out]; exact KEEP.out.2⟩
  · rw [dif_neg hlt] at hla
    have e1 : ((place key xs : Int) == (xs.length : Int)) = true := by simp; omega
    have hER : Hid (era key xs = xs) := by have h := HER.out; rw [hla] at h; exact h
    clear hla hple hlt
    generalize place key xs = pl at *
    go_wp2_with fail
    refine bodyPost_ret (results_cell_row rfl _ _ (w.heap.size + 1) 36 #[.slice A xs.length c] (0, 0) _ rfl KEEP.out.1 Try.underlying36 rfl (by kernel_rfl)) rfl ?_
    exact ⟨_, rfl, by rw [hER.out]; exact KEEP.out.2⟩
end Go.Proofs.Ytekcphpeaoaaaaa

/- Package table, the reference: Put. -/
namespace Go.Proofs.Ytekcphpeaoaaaaa
open Go.RowKit Go.Shelf
set_option linter.unusedVariables false

attribute [local go_sem] Oper.semAt_some

theorem rdc_one (w : World) (p : Pr) : RdC (w.alloc (.cells #[.string (S p.k), .string (S p.v), .bool p.g] 40)) (.slice (some ⟨w.heap.size, 0, none⟩) 1 1) [p] :=
  ⟨_, _, rfl, Nat.le_refl _, by omega, .inr ⟨_, _, rfl, fun j u hu => by
    rw [Nat.zero_add, (BlkIs.new w 40 #[.string (S p.k), .string (S p.v), .bool p.g]).cell]
    rw [prsC_one] at hu
    simpa [prC] using hu⟩⟩
theorem own_slice' {W : World} {B : Nat} {v : Value} {l : List Pr} (h : Row W B v l) : ∃ A n c, v = .slice A n c := by
  obtain ⟨A, c, e⟩ := own_slice h
  exact ⟨A, _, c, e⟩
theorem ins_eq (key val : Str) (xs : List KV) : (ins key val xs).map prOf = (([] ++ (xs.map prOf).take (place key xs)) ++ [⟨key, val, false⟩]) ++ (xs.map prOf).drop (place key xs + if hit key xs then 1 else 0) := by
  unfold ins
  rw [List.map_append, List.map_cons, List.map_take, List.map_drop, List.nil_append, List.append_assoc]
  rfl

set_option maxRecDepth 100000 in
set_option maxHeartbeats 2000000 in
theorem rput_any (w : World) (T' : Value) (xs : List KV) (key val : Str) (h : Rt w T' xs) (hn : xs.length ≤ 100000000) :
    Calls Try.prog 45 #[T', .string (S key), .string (S val)] w (Ret fun r w' => Rt w' r (ins key val xs) ∧ Nx w w') := by
  have HT := h
  obtain ⟨s, rfl, hr, hpln⟩ := h
  obtain ⟨A, c, rfl⟩ : ∃ A c, s = .slice A xs.length c := by
    obtain ⟨A, c, e, _⟩ := hr
    rw [List.length_map] at e
    exact ⟨A, c, e⟩
  obtain ⟨W, hW⟩ : ∃ W, (w.alloc (.cells #[.slice A xs.length c] 36)).alloc (.cells #[.slice none 0 0] 36) = W := ⟨_, rfl⟩
  have n1 : Nx w W := by rw [← hW]; exact ((Nx.refl w).alloc _).alloc _
  have hb0 : BlkIs W w.heap.size 36 #[.slice A xs.length c] := by rw [← hW]; exact (box_blk w _ _).nx ((Nx.refl _).alloc _)
  have hb1 : BlkIs W (w.heap.size + 1) 36 #[.slice none 0 0] := by
    rw [← hW]
    have := box_blk (w.alloc (.cells #[.slice A xs.length c] 36)) (.slice none 0 0) 36
    rwa [World.size_alloc] at this
  have c0 : W.cell? ⟨w.heap.size, 0, none⟩ = some (.slice A xs.length c) := by rw [hb0.cell]; rfl
  have PL := Lib.hid (rplace_any W _ xs key (HT.nx n1) hn)
  have N1 := Lib.hid n1
  have B0 := Lib.hid hb0
  have B1 := Lib.hid hb1
  have HR := Lib.hid (hr.nx n1)
  have hla := hit_at key xs
  have hple := place_le key xs
  have HEQ := Lib.hid (ins_eq key val xs)
  have HRW := Lib.hid hr
  clear hr n1 hb0 hb1 HT
  go_enter Try.func45, Try.ntmps45
  go_wp2_with fail
  refine PL.out.mono ?_
  rintro e w2 ⟨rfl, hn2⟩
  have b2 := B0.out.nx hn2
  have b3 := B1.out.nx hn2
  have c2 : w2.cell? ⟨w.heap.size, 0, none⟩ = some (.slice A xs.length c) := by rw [b2.cell]; rfl
  have n2 : Nx w w2 := N1.out.trans hn2
  have z2 : w.heap.size + 2 ≤ w2.heap.size := by have := b3.lt; omega
  have NEW : Hid (∀ V v' (L : List Pr), Row V w2.heap.size v' L → Nx w2 V → V.cell? ⟨w.heap.size + 1, 0, none⟩ = some (.slice none 0 0) ∧ V.frozen? ⟨w.heap.size + 1, 0, none⟩ = false ∧ BlkIs (V.setCell ⟨w.heap.size + 1, 0, none⟩ v') (w.heap.size + 1) 36 #[v'] ∧ (L = (ins key val xs).map prOf → Rt (V.setCell ⟨w.heap.size + 1, 0, none⟩ v') (.agg #[v']) (ins key val xs)) ∧ Nx w (V.setCell ⟨w.heap.size + 1, 0, none⟩ v')) := fun V v' L hrow hV => by
    have b4 := b3.nx hV
    refine ⟨by rw [b4.cell]; rfl, b4.frozen 0, b4.set 0 _, fun e => ⟨v', rfl, Row.rdc (B := w2.heap.size) (row_of_blk (e ▸ hrow) fun j hj => ?_), hrow.pln⟩, (n2.trans hV).set _ 0 _ (by omega)⟩
    have := (own_row_blk' hrow hj).1
    exact (Chd.set V (w.heap.size + 1) 0 v').block j (by
      obtain ⟨_, cs, hc⟩ := own_row_blk' hrow hj
      exact hc.lt) (by omega)
  have HB2 := Lib.hid b2
  have HN2 := Lib.hid n2
  have GR : Hid (∀ (V V' : World) (v : Value) (l : List Pr), Row V w2.heap.size v l → V.grownBy V' v.ownBlock → w2.heap.size ≤ V.heap.size → Below w2.heap.size V V') := fun V V' v l h1 h2 h3 => (Chd.of_grown h2).below h3 fun j hj e => by have := (own_row_blk' h1 e).1; omega
  have N3 : Hid (Nx w2 (w2.alloc (.cells #[] 40))) := (Nx.refl w2).alloc _
  clear PL hn2 hW c0 b2 b3 n2 B0 B1 N1
  have LEN1 : Hid (([] : List Pr).length + ((xs.map prOf).take (place key xs)).length ≤ 1000000000) := by show _ ≤ _; rw [List.length_take, List.length_map, List.length_nil]; omega
  have LEN2 : Hid (([] ++ (xs.map prOf).take (place key xs)).length + [(⟨key, val, false⟩ : Pr)].length ≤ 1000000000) := by show _ ≤ _; rw [List.length_append, List.length_take, List.length_map, List.length_nil, List.length_singleton]; omega
  have cA : (w2.alloc (.cells #[] 40)).cell? ⟨w.heap.size, 0, none⟩ = some (.slice A xs.length c) := by rw [(HB2.out.nx N3.out).cell]; rfl
  rcases hpln with e | ⟨b, o, n', c', e⟩
  · simp only [Value.slice.injEq] at e
    obtain ⟨rfl, h8, rfl⟩ := e
    obtain rfl : xs = [] := List.eq_nil_of_length_eq_zero h8
    have hp0 : place key [] = 0 := rfl
    have hh0 : hit key [] = false := rfl
    have LEN3 : Hid ((([] ++ (([] : List KV).map prOf).take (place key [])) ++ [(⟨key, val, false⟩ : Pr)]).length + ((([] : List KV).map prOf).drop (0)).length ≤ 1000000000) := by show _ ≤ _; simp
    have TK : Hid (RdC w (.slice none 0 0) ((([] : List KV).map prOf).take (place key []))) := ⟨_, _, rfl, Nat.le_refl _, by omega, .inl rfl⟩
    have TD : Hid (RdC w (.slice none 0 0) ((([] : List KV).map prOf).drop 0)) := ⟨_, _, rfl, Nat.le_refl _, by omega, .inl rfl⟩
    have HEQ : Hid ((ins key val []).map prOf = (([] ++ (([] : List KV).map prOf).take (place key [])) ++ [⟨key, val, false⟩]) ++ (([] : List KV).map prOf).drop 0) := HEQ
    clear hla hple hn h8 hh0 c2
    go_wp2_with (first
      | (at_builtin; refine wpList_app rfl _ _ rfl w2.heap.size (.slice (some ⟨w2.heap.size, 0, none⟩) 0 0) _ [] ((([] : List KV).map prOf).take (place key [])) rfl rfl (row_new w2 w2.heap.size (Nat.le_refl _)) (TK.out.nx (HN2.out.trans N3.out)) LEN1.out (by simp) ?_; intro v1 w3 hrow1 hg1; have n3 : Nx w2 w3 := Below.trans N3.out (GR.out _ _ _ _ (row_new w2 w2.heap.size (Nat.le_refl _)) hg1 (by simp)); have HR1 := Lib.hid hrow1; have HN3 := Lib.hid n3; clear hrow1 hg1 n3)
      | (at_builtin; refine wpList_app rfl _ _ rfl w2.heap.size v1 _ _ [⟨key, val, false⟩] rfl rfl (HR1.out.alloc _) (rdc_one w3 ⟨key, val, false⟩) LEN2.out (by have := HN3.out.size; simp; omega) ?_; intro v2 w4 hrow2 hg2; have n4 : Nx w2 w4 := Below.trans (HN3.out.alloc _) (GR.out _ _ _ _ (HR1.out.alloc _) hg2 (by have := HN3.out.size; simp; omega)); have c4 : w4.cell? ⟨w.heap.size, 0, none⟩ = some (.slice none 0 0) := (by rw [(HB2.out.nx n4).cell]; rfl); have HR2 := Lib.hid hrow2; have HN4 := Lib.hid n4; clear hrow2 hg2 n4)
      | (at_builtin; refine wpList_app rfl _ _ rfl w2.heap.size v2 _ _ ((([] : List KV).map prOf).drop (0)) rfl rfl HR2.out (TD.out.nx (HN2.out.trans HN4.out)) LEN3.out HN4.out.size ?_; intro v3 w5 hrow3 hg3; have n5 : Nx w2 w5 := Below.trans HN4.out (GR.out _ _ _ _ HR2.out hg3 HN4.out.size); obtain ⟨A9, n9, c9, rfl⟩ := own_slice' hrow3; obtain ⟨k1, k2, k3, k4, k5⟩ := NEW.out w5 _ _ hrow3 n5; have K3 := Lib.hid k3; have K4 := Lib.hid (k4 HEQ.out.symm); have K5 := Lib.hid k5; clear k3 k4 k5 hrow3 hg3 n5))
    refine bodyPost_ret (results_cell_row rfl _ _ (w.heap.size + 1) 36 #[.slice A9 n9 c9] (0, 0) _ rfl K3.out Try.underlying36 rfl (by kernel_rfl)) rfl ?_
    exact ⟨_, rfl, K4.out, K5.out⟩
  · simp only [Value.slice.injEq] at e
    obtain ⟨rfl, h8, h9⟩ := e
    clear h8 h9
    have hcap : xs.length ≤ c ∧ c ≤ 9223372036854775807 := by
      obtain ⟨A', c', e, h1, h2, _⟩ := HRW.out
      rw [List.length_map] at e h1
      simp only [Value.slice.injEq] at e
      obtain ⟨_, _, rfl⟩ := e
      exact ⟨h1, h2⟩
    have HRX : Hid (RdC w (.slice (some ⟨b, o, none⟩) (xs.map prOf).length c) (xs.map prOf)) := by have := HRW.out; rwa [show xs.length = (xs.map prOf).length from (List.length_map ..).symm] at this
    have TK := Lib.hid (RdC.take HRX.out (place key xs) (by rw [List.length_map]; omega))
    have q1 : place key xs ≤ xs.length := hple
    have q3 : xs.length ≤ c := hcap.1
    have g1 : (place key xs : Int) ≤ (c : Int) := by omega
    have g5 : (xs.length : Int) ≤ (c : Int) := by omega
    have e3 : (0 : Int) ≤ (place key xs : Int) := by omega
    by_cases hlt : place key xs < xs.length
    · rw [dif_pos hlt] at hla
      have AT : Hid (∀ V, Nx w V → V.cell? ⟨b, o + place key xs * 3, none⟩ = some (.string (S (xs[place key xs]'hlt).1)) ∧ True) := fun V hV => ⟨((HRW.out.nx hV).key _ hlt).1, trivial⟩
      have e1 : decide ((place key xs : Int) < (xs.length : Int)) = true := by simp; omega
      have e4 : (place key xs : Int) < (xs.length : Int) := by omega
      generalize xs[place key xs] = ev at *
      have hse := S_eq ev.1 key
      by_cases hk : ev.1 = key
      · rw [decide_eq_true hk] at hla hse
        rw [hla] at HEQ
        have HEQ : Hid ((ins key val xs).map prOf = (([] ++ (xs.map prOf).take (place key xs)) ++ [⟨key, val, false⟩]) ++ (xs.map prOf).drop (place key xs + 1)) := HEQ
        have DP := Lib.hid (fun A' c' => RdC.dropN HRX.out (place key xs + 1) (by rw [List.length_map]; omega) A' c')
        rw [List.length_map] at DP
        have LEN3 : Hid ((([] ++ (xs.map prOf).take (place key xs)) ++ [(⟨key, val, false⟩ : Pr)]).length + ((xs.map prOf).drop (place key xs + 1)).length ≤ 1000000000) := by show _ ≤ _; simp only [List.length_append, List.length_take, List.length_map, List.length_nil, List.length_singleton, List.length_drop]; omega
        have g2 : IntKind.i64.wrap ((place key xs : Int) + 1) = (place key xs : Int) + 1 := IntWalk.i64_in _ (by omega)
        have g3 : (0 : Int) ≤ (place key xs : Int) + 1 := by omega
        have g4 : (place key xs : Int) + 1 ≤ (xs.length : Int) := by omega
        have q2 : place key xs + 1 ≤ xs.length := by omega
        clear hla hk hple hcap hn hlt
        by_cases hc : c = place key xs + 1
        · have hX : xs.length = place key xs + 1 := by omega
          have hz : xs.length - (place key xs + 1) = 0 := by omega
          have DP3 := Lib.hid (DP.out ⟨b, o, none⟩ 0 (.inr ⟨hX, rfl⟩))
          rw [hz] at DP3
          clear hX hz DP
          generalize place key xs = pl at *
          subst hc
          have q5 : (pl : Int) ≤ (pl : Int) + 1 := by omega
          have q6 : pl ≤ pl + 1 := by omega
          go_wp2_with (first
            | (at_builtin; refine wpList_app rfl _ _ rfl w2.heap.size (.slice (some ⟨w2.heap.size, 0, none⟩) 0 0) _ [] ((xs.map prOf).take pl) rfl rfl (row_new w2 w2.heap.size (Nat.le_refl _)) (TK.out.nx (HN2.out.trans N3.out)) LEN1.out (by simp) ?_; intro v1 w3 hrow1 hg1; have n3 : Nx w2 w3 := Below.trans N3.out (GR.out _ _ _ _ (row_new w2 w2.heap.size (Nat.le_refl _)) hg1 (by simp)); have HR1 := Lib.hid hrow1; have HN3 := Lib.hid n3; clear hrow1 hg1 n3)
            | (at_builtin; refine wpList_app rfl _ _ rfl w2.heap.size v1 _ _ [⟨key, val, false⟩] rfl rfl (HR1.out.alloc _) (rdc_one w3 ⟨key, val, false⟩) LEN2.out (by have := HN3.out.size; simp; omega) ?_; intro v2 w4 hrow2 hg2; have n4 : Nx w2 w4 := Below.trans (HN3.out.alloc _) (GR.out _ _ _ _ (HR1.out.alloc _) hg2 (by have := HN3.out.size; simp; omega)); have c4 : w4.cell? ⟨w.heap.size, 0, none⟩ = some (.slice (some ⟨b, o, none⟩) xs.length (pl + 1)) := (by rw [(HB2.out.nx n4).cell]; rfl); have y0 := (AT.out w4 (HN2.out.trans n4)).1; have HR2 := Lib.hid hrow2; have HN4 := Lib.hid n4; clear hrow2 hg2 n4)
            | (at_builtin; refine wpList_app rfl _ _ rfl w2.heap.size v2 _ _ ((xs.map prOf).drop (pl + 1)) rfl rfl HR2.out (DP3.out.nx (HN2.out.trans HN4.out)) LEN3.out HN4.out.size ?_; intro v3 w5 hrow3 hg3; have n5 : Nx w2 w5 := Below.trans HN4.out (GR.out _ _ _ _ HR2.out hg3 HN4.out.size); obtain ⟨A9, n9, c9, rfl⟩ := own_slice' hrow3; obtain ⟨k1, k2, k3, k4, k5⟩ := NEW.out w5 _ _ hrow3 n5; have K3 := Lib.hid k3; have K4 := Lib.hid (k4 HEQ.out.symm); have K5 := Lib.hid k5; clear k3 k4 k5 hrow3 hg3 n5))
          refine bodyPost_ret (results_cell_row rfl _ _ (w.heap.size + 1) 36 #[.slice A9 n9 c9] (0, 0) _ rfl K3.out Try.underlying36 rfl (by kernel_rfl)) rfl ?_
          exact ⟨_, rfl, K4.out, K5.out⟩
        · generalize place key xs = pl at *
          go_wp2_with (first
            | (at_builtin; refine wpList_app rfl _ _ rfl w2.heap.size (.slice (some ⟨w2.heap.size, 0, none⟩) 0 0) _ [] ((xs.map prOf).take pl) rfl rfl (row_new w2 w2.heap.size (Nat.le_refl _)) (TK.out.nx (HN2.out.trans N3.out)) LEN1.out (by simp) ?_; intro v1 w3 hrow1 hg1; have n3 : Nx w2 w3 := Below.trans N3.out (GR.out _ _ _ _ (row_new w2 w2.heap.size (Nat.le_refl _)) hg1 (by simp)); have HR1 := Lib.hid hrow1; have HN3 := Lib.hid n3; clear hrow1 hg1 n3)
            | (at_builtin; refine wpList_app rfl _ _ rfl w2.heap.size v1 _ _ [⟨key, val, false⟩] rfl rfl (HR1.out.alloc _) (rdc_one w3 ⟨key, val, false⟩) LEN2.out (by have := HN3.out.size; simp; omega) ?_; intro v2 w4 hrow2 hg2; have n4 : Nx w2 w4 := Below.trans (HN3.out.alloc _) (GR.out _ _ _ _ (HR1.out.alloc _) hg2 (by have := HN3.out.size; simp; omega)); have c4 : w4.cell? ⟨w.heap.size, 0, none⟩ = some (.slice (some ⟨b, o, none⟩) xs.length c) := (by rw [(HB2.out.nx n4).cell]; rfl); have y0 := (AT.out w4 (HN2.out.trans n4)).1; have HR2 := Lib.hid hrow2; have HN4 := Lib.hid n4; clear hrow2 hg2 n4)
            | (at_builtin; refine wpList_app rfl _ _ rfl w2.heap.size v2 _ _ ((xs.map prOf).drop (pl + 1)) rfl rfl HR2.out ((DP.out ⟨b, o + (pl + 1) * 3, none⟩ (c - (pl + 1)) (.inl ⟨rfl, rfl⟩)).nx (HN2.out.trans HN4.out)) LEN3.out HN4.out.size ?_; intro v3 w5 hrow3 hg3; have n5 : Nx w2 w5 := Below.trans HN4.out (GR.out _ _ _ _ HR2.out hg3 HN4.out.size); obtain ⟨A9, n9, c9, rfl⟩ := own_slice' hrow3; obtain ⟨k1, k2, k3, k4, k5⟩ := NEW.out w5 _ _ hrow3 n5; have K3 := Lib.hid k3; have K4 := Lib.hid (k4 HEQ.out.symm); have K5 := Lib.hid k5; clear k3 k4 k5 hrow3 hg3 n5))
          refine bodyPost_ret (results_cell_row rfl _ _ (w.heap.size + 1) 36 #[.slice A9 n9 c9] (0, 0) _ rfl K3.out Try.underlying36 rfl (by kernel_rfl)) rfl ?_
          exact ⟨_, rfl, K4.out, K5.out⟩
      · rw [decide_eq_false hk] at hla hse
        rw [hla] at HEQ
        have HEQ : Hid ((ins key val xs).map prOf = (([] ++ (xs.map prOf).take (place key xs)) ++ [⟨key, val, false⟩]) ++ (xs.map prOf).drop (place key xs)) := HEQ
        have DP := Lib.hid (fun A' c' => RdC.dropN HRX.out (place key xs) (by rw [List.length_map]; omega) A' c')
        rw [List.length_map] at DP
        have LEN3 : Hid ((([] ++ (xs.map prOf).take (place key xs)) ++ [(⟨key, val, false⟩ : Pr)]).length + ((xs.map prOf).drop (place key xs)).length ≤ 1000000000) := by show _ ≤ _; simp only [List.length_append, List.length_take, List.length_map, List.length_nil, List.length_singleton, List.length_drop]; omega
        have g4 : (place key xs : Int) ≤ (xs.length : Int) := by omega
        have hc : ¬ c = place key xs := by omega
        clear hla hk hple hcap hn hlt
        generalize place key xs = pl at *
        go_wp2_with (first
          | (at_builtin; refine wpList_app rfl _ _ rfl w2.heap.size (.slice (some ⟨w2.heap.size, 0, none⟩) 0 0) _ [] ((xs.map prOf).take pl) rfl rfl (row_new w2 w2.heap.size (Nat.le_refl _)) (TK.out.nx (HN2.out.trans N3.out)) LEN1.out (by simp) ?_; intro v1 w3 hrow1 hg1; have n3 : Nx w2 w3 := Below.trans N3.out (GR.out _ _ _ _ (row_new w2 w2.heap.size (Nat.le_refl _)) hg1 (by simp)); have HR1 := Lib.hid hrow1; have HN3 := Lib.hid n3; clear hrow1 hg1 n3)
          | (at_builtin; refine wpList_app rfl _ _ rfl w2.heap.size v1 _ _ [⟨key, val, false⟩] rfl rfl (HR1.out.alloc _) (rdc_one w3 ⟨key, val, false⟩) LEN2.out (by have := HN3.out.size; simp; omega) ?_; intro v2 w4 hrow2 hg2; have n4 : Nx w2 w4 := Below.trans (HN3.out.alloc _) (GR.out _ _ _ _ (HR1.out.alloc _) hg2 (by have := HN3.out.size; simp; omega)); have c4 : w4.cell? ⟨w.heap.size, 0, none⟩ = some (.slice (some ⟨b, o, none⟩) xs.length c) := (by rw [(HB2.out.nx n4).cell]; rfl); have y0 := (AT.out w4 (HN2.out.trans n4)).1; have HR2 := Lib.hid hrow2; have HN4 := Lib.hid n4; clear hrow2 hg2 n4)
          | (at_builtin; refine wpList_app rfl _ _ rfl w2.heap.size v2 _ _ ((xs.map prOf).drop (pl)) rfl rfl HR2.out ((DP.out ⟨b, o + pl * 3, none⟩ (c - pl) (.inl ⟨rfl, rfl⟩)).nx (HN2.out.trans HN4.out)) LEN3.out HN4.out.size ?_; intro v3 w5 hrow3 hg3; have n5 : Nx w2 w5 := Below.trans HN4.out (GR.out _ _ _ _ HR2.out hg3 HN4.out.size); obtain ⟨A9, n9, c9, rfl⟩ := own_slice' hrow3; obtain ⟨k1, k2, k3, k4, k5⟩ := NEW.out w5 _ _ hrow3 n5; have K3 := Lib.hid k3; have K4 := Lib.hid (k4 HEQ.out.symm); have K5 := Lib.hid k5; clear k3 k4 k5 hrow3 hg3 n5))
        refine bodyPost_ret (results_cell_row rfl _ _ (w.heap.size + 1) 36 #[.slice A9 n9 c9] (0, 0) _ rfl K3.out Try.underlying36 rfl (by kernel_rfl)) rfl ?_
        exact ⟨_, rfl, K4.out, K5.out⟩
    · rw [dif_neg hlt] at hla
      rw [hla] at HEQ
      have HEQ : Hid ((ins key val xs).map prOf = (([] ++ (xs.map prOf).take (place key xs)) ++ [⟨key, val, false⟩]) ++ (xs.map prOf).drop (place key xs)) := HEQ
      have DP := Lib.hid (fun A' c' => RdC.dropN HRX.out (place key xs) (by rw [List.length_map]; omega) A' c')
      rw [List.length_map] at DP
      have LEN3 : Hid ((([] ++ (xs.map prOf).take (place key xs)) ++ [(⟨key, val, false⟩ : Pr)]).length + ((xs.map prOf).drop (place key xs)).length ≤ 1000000000) := by show _ ≤ _; simp only [List.length_append, List.length_take, List.length_map, List.length_nil, List.length_singleton, List.length_drop]; omega
      have hX : place key xs = xs.length := by omega
      have e1 : decide ((place key xs : Int) < (xs.length : Int)) = false := by simp; omega
      have e2 : decide (place key xs < xs.length) = false := by simp; omega
      have g4 : (place key xs : Int) ≤ (xs.length : Int) := by omega
      have hz : xs.length - place key xs = 0 := by omega
      by_cases hc : c = place key xs
      · have DP3 := Lib.hid (DP.out ⟨b, o, none⟩ 0 (.inr ⟨hX.symm, rfl⟩))
        have DP4 := DP3
        rw [hz] at DP3
        clear hX hz DP hla hple hcap hn hlt
        generalize place key xs = pl at *
        have hc2 := hc.symm
        clear hc
        subst hc2
        go_wp2_with (first
          | (at_builtin; refine wpList_app rfl _ _ rfl w2.heap.size (.slice (some ⟨w2.heap.size, 0, none⟩) 0 0) _ [] ((xs.map prOf).take pl) rfl rfl (row_new w2 w2.heap.size (Nat.le_refl _)) (TK.out.nx (HN2.out.trans N3.out)) LEN1.out (by simp) ?_; intro v1 w3 hrow1 hg1; have n3 : Nx w2 w3 := Below.trans N3.out (GR.out _ _ _ _ (row_new w2 w2.heap.size (Nat.le_refl _)) hg1 (by simp)); have HR1 := Lib.hid hrow1; have HN3 := Lib.hid n3; clear hrow1 hg1 n3)
          | (at_builtin; refine wpList_app rfl _ _ rfl w2.heap.size v1 _ _ [⟨key, val, false⟩] rfl rfl (HR1.out.alloc _) (rdc_one w3 ⟨key, val, false⟩) LEN2.out (by have := HN3.out.size; simp; omega) ?_; intro v2 w4 hrow2 hg2; have n4 : Nx w2 w4 := Below.trans (HN3.out.alloc _) (GR.out _ _ _ _ (HR1.out.alloc _) hg2 (by have := HN3.out.size; simp; omega)); have c4 : w4.cell? ⟨w.heap.size, 0, none⟩ = some (.slice (some ⟨b, o, none⟩) xs.length pl) := (by rw [(HB2.out.nx n4).cell]; rfl); have HR2 := Lib.hid hrow2; have HN4 := Lib.hid n4; clear hrow2 hg2 n4)
          | (at_builtin; refine wpList_app rfl _ _ rfl w2.heap.size v2 _ _ ((xs.map prOf).drop (pl)) rfl rfl HR2.out (DP3.out.nx (HN2.out.trans HN4.out)) LEN3.out HN4.out.size ?_; intro v3 w5 hrow3 hg3; have n5 : Nx w2 w5 := Below.trans HN4.out (GR.out _ _ _ _ HR2.out hg3 HN4.out.size); obtain ⟨A9, n9, c9, rfl⟩ := own_slice' hrow3; obtain ⟨k1, k2, k3, k4, k5⟩ := NEW.out w5 _ _ hrow3 n5; have K3 := Lib.hid k3; have K4 := Lib.hid (k4 HEQ.out.symm); have K5 := Lib.hid k5; clear k3 k4 k5 hrow3 hg3 n5)
          | (at_builtin; refine wpList_app rfl _ _ rfl w2.heap.size v2 _ _ ((xs.map prOf).drop (pl)) rfl rfl HR2.out (DP4.out.nx (HN2.out.trans HN4.out)) LEN3.out HN4.out.size ?_; intro v3 w5 hrow3 hg3; have n5 : Nx w2 w5 := Below.trans HN4.out (GR.out _ _ _ _ HR2.out hg3 HN4.out.size); obtain ⟨A9, n9, c9, rfl⟩ := own_slice' hrow3; obtain ⟨k1, k2, k3, k4, k5⟩ := NEW.out w5 _ _ hrow3 n5; have K3 := Lib.hid k3; have K4 := Lib.hid (k4 HEQ.out.symm); have K5 := Lib.hid k5; clear k3 k4 k5 hrow3 hg3 n5))
        refine bodyPost_ret (results_cell_row rfl _ _ (w.heap.size + 1) 36 #[.slice A9 n9 c9] (0, 0) _ rfl K3.out Try.underlying36 rfl (by kernel_rfl)) rfl ?_
        exact ⟨_, rfl, K4.out, K5.out⟩
      · clear hX hz hla hple hcap hn hlt
        generalize place key xs = pl at *
        go_wp2_with (first
          | (at_builtin; refine wpList_app rfl _ _ rfl w2.heap.size (.slice (some ⟨w2.heap.size, 0, none⟩) 0 0) _ [] ((xs.map prOf).take pl) rfl rfl (row_new w2 w2.heap.size (Nat.le_refl _)) (TK.out.nx (HN2.out.trans N3.out)) LEN1.out (by simp) ?_; intro v1 w3 hrow1 hg1; have n3 : Nx w2 w3 := Below.trans N3.out (GR.out _ _ _ _ (row_new w2 w2.heap.size (Nat.le_refl _)) hg1 (by simp)); have HR1 := Lib.hid hrow1; have HN3 := Lib.hid n3; clear hrow1 hg1 n3)
          | (at_builtin; refine wpList_app rfl _ _ rfl w2.heap.size v1 _ _ [⟨key, val, false⟩] rfl rfl (HR1.out.alloc _) (rdc_one w3 ⟨key, val, false⟩) LEN2.out (by have := HN3.out.size; simp; omega) ?_; intro v2 w4 hrow2 hg2; have n4 : Nx w2 w4 := Below.trans (HN3.out.alloc _) (GR.out _ _ _ _ (HR1.out.alloc _) hg2 (by have := HN3.out.size; simp; omega)); have c4 : w4.cell? ⟨w.heap.size, 0, none⟩ = some (.slice (some ⟨b, o, none⟩) xs.length c) := (by rw [(HB2.out.nx n4).cell]; rfl); have HR2 := Lib.hid hrow2; have HN4 := Lib.hid n4; clear hrow2 hg2 n4)
          | (at_builtin; refine wpList_app rfl _ _ rfl w2.heap.size v2 _ _ ((xs.map prOf).drop (pl)) rfl rfl HR2.out ((DP.out ⟨b, o + pl * 3, none⟩ (c - pl) (.inl ⟨rfl, rfl⟩)).nx (HN2.out.trans HN4.out)) LEN3.out HN4.out.size ?_; intro v3 w5 hrow3 hg3; have n5 : Nx w2 w5 := Below.trans HN4.out (GR.out _ _ _ _ HR2.out hg3 HN4.out.size); obtain ⟨A9, n9, c9, rfl⟩ := own_slice' hrow3; obtain ⟨k1, k2, k3, k4, k5⟩ := NEW.out w5 _ _ hrow3 n5; have K3 := Lib.hid k3; have K4 := Lib.hid (k4 HEQ.out.symm); have K5 := Lib.hid k5; clear k3 k4 k5 hrow3 hg3 n5))
        refine bodyPost_ret (results_cell_row rfl _ _ (w.heap.size + 1) 36 #[.slice A9 n9 c9] (0, 0) _ rfl K3.out Try.underlying36 rfl (by kernel_rfl)) rfl ?_
        exact ⟨_, rfl, K4.out, K5.out⟩
end Go.Proofs.Ytekcphpeaoaaaaa

/- Package table, the reference: Of. -/
namespace Go.Proofs.Ytekcphpeaoaaaaa
open Go.RowKit Go.Shelf
set_option linter.unusedVariables false

attribute [local go_sem] Oper.semAt_some

theorem RdC.set {w : World} {v : Value} {l : List Pr} (h : RdC w v l) {g : Nat} {ty : TypeId} {x : Value} (hb : BlkIs w g ty #[x]) (hx : ∀ s, x ≠ .string s) (u : Value) : RdC (w.setCell ⟨g, 0, none⟩ u) v l := by
  obtain ⟨A, c, rfl, h1, h2, h3⟩ := h
  refine ⟨A, c, rfl, h1, h2, ?_⟩
  rcases h3 with h3 | ⟨b, o, e, hc⟩
  · exact .inl h3
  · cases l with
    | nil => exact .inl rfl
    | cons p l =>
      right
      refine ⟨b, o, e, fun j v hv => ?_⟩
      have h0 := hc 0 (.string (S p.k)) rfl
      have hbg : b ≠ g := fun e => by
        subst e
        rw [hb.cell, Nat.add_zero] at h0
        cases o with
        | zero => exact hx _ (by simpa using h0)
        | succ o => simp at h0
      have hj := hc j v hv
      rw [World.cell?_of_block ((Chd.set w g 0 u).block b (World.block_lt_of_cell? w ⟨b, o + j, none⟩ hj) hbg)]
      exact hj
theorem Rt.store {w : World} {T' : Value} {xs : List KV} (h : Rt w T' xs) {g : Nat} {ty : TypeId} {x : Value} (hb : BlkIs w g ty #[x]) (hx : ∀ s, x ≠ .string s) (u : Value) : Rt (w.setCell ⟨g, 0, none⟩ u) T' xs := by
  obtain ⟨s, e, hr, hp⟩ := h
  exact ⟨s, e, hr.set hb hx u, hp⟩
theorem Rt.agg {w : World} {T' : Value} {xs : List KV} (h : Rt w T' xs) : ∃ A n c, T' = .agg #[.slice A n c] := by
  obtain ⟨s, e, hr, _⟩ := h
  obtain ⟨A, c, e2, _⟩ := hr
  exact ⟨A, _, c, by rw [e, e2]⟩
theorem slice_no (A : Option Addr) (n c : Nat) : ∀ s, Value.slice A n c ≠ .string s := fun s h => by cases h
def RfI (w : World) (l : List Pr) (i n : Nat) (wr : World) : Prop :=
  i + n = l.length ∧ ∃ A m c, BlkIs wr (w.heap.size + 1) 36 #[.slice A m c] ∧ BlkIs wr w.heap.size 36 #[.slice none 0 0] ∧ Rt wr (.agg #[.slice A m c]) (ofL (l.take i)) ∧ Nx w wr ∧ w.heap.size + 2 ≤ wr.heap.size

set_option maxRecDepth 100000 in
set_option maxHeartbeats 2000000 in
theorem rof_any (w : World) (v : Value) (l : List Pr) (h : Rd w v l) (hn : l.length < 100000000) :
    Calls Try.prog 33 #[v] w (Ret fun r w' => Rt w' r (ofL l) ∧ Nx w w') := by
  have hv : ∃ A c, v = .slice A l.length c := by rcases h with ⟨_, c, rfl, rfl⟩ | ⟨_, _, c, rfl, _⟩ <;> exact ⟨_, _, rfl⟩
  obtain ⟨A, c, rfl⟩ := hv
  have HA := Lib.hid h
  obtain ⟨W, hW⟩ : ∃ W, (w.alloc (.cells #[.slice none 0 0] 36)).alloc (.cells #[.slice none 0 0] 36) = W := ⟨_, rfl⟩
  have START : Hid (RfI w l 0 l.length W) := by
    have a1 := box_blk w (.slice none 0 0) 36
    have a2 := box_blk (w.alloc (.cells #[.slice none 0 0] 36)) (.slice none 0 0) 36
    rw [World.size_alloc] at a2
    rw [← hW]
    exact ⟨by omega, none, 0, 0, a2, a1.nx ((Nx.refl _).alloc _), Rt.zero _, ((Nx.refl w).alloc _).alloc _, by simp⟩
  clear h
  go_enter Try.func33, Try.ntmps33
  go_wp2
  go_loopg [4] l.length (fun n p4 wr => ∃ (i : Nat), p4 = .int .i64 (i : Int) ∧ Hid (RfI w l i n wr))
  case atStart => exact ⟨0, rfl, by first | exact START.out | (rw [hW]; exact START.out)⟩
  case round =>
    obtain ⟨i, rfl, hh⟩ := hrel
    clear START hW
    obtain ⟨hi, A1, m1, c1, hb, hb0, ht, hnx, hz⟩ := hh.out
    by_cases hlt : i < l.length
    · have e2 : decide ((i : Int) < (l.length : Int)) = true := by simpa using hlt
      have e3 : (0 : Int) ≤ (i : Int) := by omega
      have e4 : (i : Int) < (l.length : Int) := by omega
      rcases (Rd.nx HA.out hnx) with ⟨_, _, _, e⟩ | ⟨ba, oa, c2, ea, hca⟩
      · rw [e] at hlt; cases hlt
      · simp only [Value.slice.injEq] at ea
        obtain ⟨rfl, _, rfl⟩ := ea
        obtain ⟨x0, x1, x2⟩ := Rd.cells hca i hlt
        have hof := ofL_take l i hlt
        have hol := ofL_len (l.take i)
        rw [List.length_take] at hol
        generalize l[i] = p at *
        have hw : IntKind.i64.wrap ((i : Int) + 1) = (i : Int) + 1 := IntWalk.i64_in _ (by omega)
        have c3 : wr.cell? ⟨w.heap.size + 1, 0, none⟩ = some (.slice A1 m1 c1) := by rw [hb.cell]; rfl
        have PT := Lib.hid (rput_any wr.drew (.agg #[.slice A1 m1 c1]) _ p.k p.v (ht.nx (Nx.drew (Nx.refl wr))) (by omega))
        have FIN : Hid (∀ A2 m2 c2 w', Rt w' (.agg #[.slice A2 m2 c2]) (ins p.k p.v (ofL (l.take i))) → Nx wr w' → w'.cell? ⟨w.heap.size + 1, 0, none⟩ = some (.slice A1 m1 c1) ∧ w'.frozen? ⟨w.heap.size + 1, 0, none⟩ = false ∧ gk - 1 < gk ∧ RfI w l (i + 1) (gk - 1) (w'.setCell ⟨w.heap.size + 1, 0, none⟩ (.slice A2 m2 c2))) := fun A2 m2 c2 w' ht' hn' => by
          have hb' := hb.nx hn'
          have s1 := hn'.size
          refine ⟨by rw [hb'.cell]; rfl, hb'.frozen 0, by omega, by omega, A2, m2, c2, hb'.set 0 _, ((hb0.nx hn').chd (Chd.set _ _ 0 _) (by omega)), ?_, (hnx.trans hn').set _ 0 _ (by omega), by simp; omega⟩
          rw [hof]
          exact ht'.store hb' (slice_no _ _ _) _
        clear hca hb hb0 ht hnx hz hh hof hol hi
        go_wp2_with fail
        go_region_with (go_at_call 45; refine PT.out.mono ?_; rintro e w' ⟨r, rfl, ht', hn'⟩; obtain ⟨A2, m2, cc, rfl⟩ := ht'.agg; obtain ⟨g1, g2, g3, g4⟩ := FIN.out A2 m2 cc w' ht' ((Nx.drew (Nx.refl wr)).trans hn'); have G4 := Lib.hid g4; clear g4 ht')
        all_goals
          clear x0 x1 c3
          go_wp2
          go_roundg (gk - 1)
          case measure => exact g3
          case rel => exact ⟨i + 1, by push_cast; rfl, G4⟩
    · have e2 : decide ((i : Int) < (l.length : Int)) = false := by simpa using hlt
      have e3 : decide (i < l.length) = false := by simpa using hlt
      have c3 : wr.cell? ⟨w.heap.size + 1, 0, none⟩ = some (.slice A1 m1 c1) := by rw [hb.cell]; rfl
      have c0 : wr.cell? ⟨w.heap.size, 0, none⟩ = some (.slice none 0 0) := by rw [hb0.cell]; rfl
      have f0 := hb0.frozen 0
      have FIN : Hid (BlkIs (wr.setCell ⟨w.heap.size, 0, none⟩ (.slice A1 m1 c1)) w.heap.size 36 #[.slice A1 m1 c1] ∧ Rt (wr.setCell ⟨w.heap.size, 0, none⟩ (.slice A1 m1 c1)) (.agg #[.slice A1 m1 c1]) (ofL l) ∧ Nx w (wr.setCell ⟨w.heap.size, 0, none⟩ (.slice A1 m1 c1))) := by
        refine ⟨hb0.set 0 _, ?_, hnx.set _ 0 _ (Nat.le_refl _)⟩
        have := ht.store hb0 (slice_no _ _ _) (.slice A1 m1 c1)
        rwa [List.take_of_length_le (by omega)] at this
      clear hb hb0 ht hnx hz hh hi hlt
      go_wp2_with fail
      refine bodyPost_ret (results_cell_row rfl _ _ w.heap.size 36 #[.slice A1 m1 c1] (0, 0) _ rfl FIN.out.1 Try.underlying36 rfl (by kernel_rfl)) rfl ?_
      exact ⟨_, rfl, FIN.out.2⟩
end Go.Proofs.Ytekcphpeaoaaaaa

/- Package table, the reference: Range. -/
namespace Go.Proofs.Ytekcphpeaoaaaaa
open Go.RowKit Go.Shelf
set_option linter.unusedVariables false

attribute [local go_sem] Oper.semAt_some

/-- Between two rounds: j pairs are taken. -/
def RgI (w W : World) (to : Str) (most : Int) (xs fl : List KV) (pl j : Nat) (v : Value) (wr : World) : Prop :=
  j ≤ fl.length ∧ fl.length = xs.length - pl ∧ Good to most fl j ∧ Row wr W.heap.size v ((fl.take j).map prOf) ∧ Nx W wr

theorem Row.lower {w : World} {B B' : Nat} {v : Value} {l : List Pr} (h : Row w B v l) (hB : B' ≤ B) : Row w B' v l := by
  refine ⟨h.1, h.2.imp id fun ⟨g, cap, cur, e, hg, r⟩ => ⟨g, cap, cur, e, Nat.le_trans hB hg, r⟩⟩

set_option maxRecDepth 100000 in
set_option maxHeartbeats 2000000 in
theorem rrange_any (w : World) (T' : Value) (xs : List KV) (frm to : Str) (most : Int) (h : Rt w T' xs) (hn : xs.length ≤ 100000000) (hm1 : -9223372036854775808 ≤ most) (hm2 : most ≤ 9223372036854775807) :
    Calls Try.prog 24 #[T', .string (S frm), .string (S to), .int .i64 most] w (Ret fun r w' => Row w' w.heap.size r ((range frm to most xs).map prOf) ∧ Nx w w') := by
  have HT := h
  obtain ⟨s, rfl, hr, _⟩ := h
  obtain ⟨A, c, rfl⟩ : ∃ A c, s = .slice A xs.length c := by
    obtain ⟨A, c, e, _⟩ := hr
    rw [List.length_map] at e
    exact ⟨A, c, e⟩
  obtain ⟨W, hW⟩ : ∃ W, w.alloc (.cells #[.slice A xs.length c] 36) = W := ⟨_, rfl⟩
  have n1 : Nx w W := by rw [← hW]; exact (Nx.refl w).alloc _
  have hb0 : BlkIs W w.heap.size 36 #[.slice A xs.length c] := by rw [← hW]; exact box_blk w _ _
  have c0 : W.cell? ⟨w.heap.size, 0, none⟩ = some (.slice A xs.length c) := by rw [hb0.cell]; rfl
  have PL := Lib.hid (rplace_any W _ xs frm (HT.nx n1) hn)
  have N1 := Lib.hid n1
  have B0 := Lib.hid hb0
  have HR := Lib.hid (hr.nx n1)
  have hple := place_le frm xs
  have RES : Hid (range frm to most xs = ((xs.drop (place frm xs)).takeWhile (okTo to)).take most.toNat) := range_eq ..
  clear hr n1 hb0 HT
  go_enter Try.func24, Try.ntmps24
  go_wp2_with fail
  refine PL.out.mono ?_
  rintro e w2 ⟨rfl, hn2⟩
  have START : Hid (RgI w w2 to most xs (xs.drop (place frm xs)) (place frm xs) 0 (.slice none 0 0) w2) :=
    ⟨Nat.zero_le _, by rw [List.length_drop], ⟨Nat.zero_le _, fun e he => by simp at he⟩, World.ownsRow_nil _ _ _ _, Nx.refl _⟩
  have N2 := Lib.hid (N1.out.trans hn2)
  have B2 := Lib.hid (B0.out.nx hn2)
  have HR2 := Lib.hid (HR.out.nx hn2)
  clear PL hn2 c0 hW HR B0
  obtain ⟨fl, hfl⟩ : ∃ fl, xs.drop (place frm xs) = fl := ⟨_, rfl⟩
  have HFL := Lib.hid hfl
  rw [hfl] at START RES
  clear hfl
  generalize place frm xs = pl at *
  go_wp2
  go_loopg [9, 10] fl.length (fun n p9 p10 wr => ∃ (i : Nat), p10 = .int .i64 (i : Int) ∧ Hid (pl ≤ i ∧ i - pl + n = fl.length ∧ RgI w w2 to most xs fl pl (i - pl) p9 wr))
  case atStart => exact ⟨pl, rfl, Nat.le_refl _, by omega, by rw [Nat.sub_self]; exact START.out⟩
  case round v =>
    obtain ⟨i, rfl, hh⟩ := hrel
    obtain ⟨hi1, hi2, hjl, hfx, hgd, hrow, hnx⟩ := hh.out
    obtain ⟨j, hj⟩ : ∃ j, i - pl = j := ⟨_, rfl⟩
    rw [hj] at hi2 hjl hgd hrow
    obtain ⟨Av, cv, rfl⟩ := own_slice hrow
    have hlj : ((fl.take j).map prOf).length = j := by rw [List.length_map, List.length_take]; omega
    rw [hlj] at hrow ⊢
    have c3 : wr.cell? ⟨w.heap.size, 0, none⟩ = some (.slice A xs.length c) := by rw [(B2.out.nx hnx).cell]; rfl
    have FR : Hid (Row wr w.heap.size (.slice Av j cv) ((fl.take j).map prOf) ∧ Nx w wr) := ⟨hrow.lower (N2.out.size), N2.out.trans hnx⟩
    by_cases hlt : i < xs.length
    · have hjf : j < fl.length := by omega
      have e2 : decide ((i : Int) < (xs.length : Int)) = true := by simpa using hlt
      have e3 : (0 : Int) ≤ (i : Int) := by omega
      have e4 : (i : Int) < (xs.length : Int) := by omega
      obtain ⟨b, o, rfl⟩ := HR2.out.addr (by rw [List.length_map]; omega)
      obtain ⟨x0, x1, x2⟩ := (HR2.out.nx hnx).key i hlt
      have hfe0 : fl[j] = xs[i] := by
        have h1 : fl[j] = (xs.drop pl)[j]'(by rw [HFL.out]; exact hjf) := by congr 1; exact HFL.out.symm
        rw [h1, List.getElem_drop]
        congr 1; omega
      have hfe : Hid (fl[j] = xs[i]) := hfe0
      clear hfe0
      generalize xs[i] = ev at *
      have hw : IntKind.i64.wrap ((i : Int) + 1) = (i : Int) + 1 := IntWalk.i64_in _ (by omega)
      by_cases hto : to = []
      · subst hto
        have d2 : ((S ([] : Str)).toList == ([] : List UInt8)) = true := by rw [S_toList]; rfl
        have hok : Hid (okTo [] ev = true) := rfl
        by_cases hm3 : (j : Int) < most
        · have d1 : decide ((j : Int) < most) = true := by simpa using hm3
          have HV := Lib.hid hrow
          have hok2 : okTo [] ev = true := hok.out
          have NXT : Hid (∀ v' w', Row w' w2.heap.size v' ((fl.take j).map prOf ++ [prOf ev]) → (wr.alloc (.cells #[.string (S ev.1), .string (S ev.2), .bool false] 40)).grownBy w' (Value.slice Av j cv).ownBlock → gk - 1 < gk ∧ pl ≤ i + 1 ∧ i + 1 - pl + (gk - 1) = fl.length ∧ RgI w w2 [] most xs fl pl (i + 1 - pl) v' w') := fun v' w' h1 h2 => by
            have e : i + 1 - pl = j + 1 := by omega
            refine ⟨by omega, by omega, by omega, by omega, hfx, by rw [e]; exact hgd.succ hjf hm3 (by rw [kvAt_get hjf, hfe.out]; exact hok2), by rw [e, map_snoc fl j hjf, kvAt_get hjf, hfe.out]; exact h1, Below.trans (hnx.alloc _) ((Chd.of_grown h2).below (by have := hnx.size; simp; omega) fun k hk e => by have := (own_row_blk' hrow e).1; omega)⟩
          have HB9 : w2.heap.size ≤ wr.heap.size := hnx.size
          have LN : Hid (((fl.take j).map prOf).length + [prOf ev].length ≤ 1000000000) := by show _ ≤ _; rw [List.length_map, List.length_take, List.length_singleton]; omega
          clear hh hi1 hi2 hgd hrow hnx
          go_wp2_with (at_builtin; refine wpList_app rfl _ _ rfl w2.heap.size (.slice Av j cv) _ _ [prOf ev] rfl rfl (HV.out.alloc _) (rdc_one wr (prOf ev)) LN.out (by simp; omega) ?_; intro v1 w3 hrow1 hg1; obtain ⟨g1, g2, g3, g4⟩ := NXT.out v1 w3 hrow1 hg1; have G4 := Lib.hid g4; clear g4 hrow1 hg1)
          go_roundg (gk - 1)
          case measure => exact g1
          case rel => exact ⟨i + 1, by push_cast; rfl, g2, g3, G4⟩
        · have d1 : decide ((j : Int) < most) = false := by simpa using hm3
          have FIN : Hid (range frm [] most xs = fl.take j) := by rw [RES.out]; exact hgd.full (by omega)
          clear hh hi1 hi2 hgd hrow hnx
          go_wp2
          go_ret
          exact ⟨_, rfl, by rw [FIN.out]; exact FR.out.1, FR.out.2⟩
      · have d2 : ((S to).toList == ([] : List UInt8)) = false := by
          rw [S_toList]
          cases to with
          | nil => exact absurd rfl hto
          | cons c tl => rfl
        by_cases hl : lt ev.1 to = true
        · have d3 : Op.bytesLess (S ev.1).toList (S to).toList = true := by rw [S_lt]; exact hl
          have hok : Hid (okTo to ev = true) := by show _ = _; unfold okTo; rw [hl, Bool.or_true]
          by_cases hm3 : (j : Int) < most
          · have d1 : decide ((j : Int) < most) = true := by simpa using hm3
            have HV := Lib.hid hrow
            have hok2 : okTo to ev = true := hok.out
            have NXT : Hid (∀ v' w', Row w' w2.heap.size v' ((fl.take j).map prOf ++ [prOf ev]) → (wr.alloc (.cells #[.string (S ev.1), .string (S ev.2), .bool false] 40)).grownBy w' (Value.slice Av j cv).ownBlock → gk - 1 < gk ∧ pl ≤ i + 1 ∧ i + 1 - pl + (gk - 1) = fl.length ∧ RgI w w2 to most xs fl pl (i + 1 - pl) v' w') := fun v' w' h1 h2 => by
              have e : i + 1 - pl = j + 1 := by omega
              refine ⟨by omega, by omega, by omega, by omega, hfx, by rw [e]; exact hgd.succ hjf hm3 (by rw [kvAt_get hjf, hfe.out]; exact hok2), by rw [e, map_snoc fl j hjf, kvAt_get hjf, hfe.out]; exact h1, Below.trans (hnx.alloc _) ((Chd.of_grown h2).below (by have := hnx.size; simp; omega) fun k hk e => by have := (own_row_blk' hrow e).1; omega)⟩
            have HB9 : w2.heap.size ≤ wr.heap.size := hnx.size
            have LN : Hid (((fl.take j).map prOf).length + [prOf ev].length ≤ 1000000000) := by show _ ≤ _; rw [List.length_map, List.length_take, List.length_singleton]; omega
            clear hh hi1 hi2 hgd hrow hnx
            go_wp2_with (at_builtin; refine wpList_app rfl _ _ rfl w2.heap.size (.slice Av j cv) _ _ [prOf ev] rfl rfl (HV.out.alloc _) (rdc_one wr (prOf ev)) LN.out (by simp; omega) ?_; intro v1 w3 hrow1 hg1; obtain ⟨g1, g2, g3, g4⟩ := NXT.out v1 w3 hrow1 hg1; have G4 := Lib.hid g4; clear g4 hrow1 hg1)
            go_roundg (gk - 1)
            case measure => exact g1
            case rel => exact ⟨i + 1, by push_cast; rfl, g2, g3, G4⟩
          · have d1 : decide ((j : Int) < most) = false := by simpa using hm3
            have FIN : Hid (range frm to most xs = fl.take j) := by rw [RES.out]; exact hgd.full (by omega)
            clear hh hi1 hi2 hgd hrow hnx
            go_wp2
            go_ret
            exact ⟨_, rfl, by rw [FIN.out]; exact FR.out.1, FR.out.2⟩
        · have d3 : Op.bytesLess (S ev.1).toList (S to).toList = false := by rw [S_lt]; simpa using hl
          have FIN : Hid (range frm to most xs = fl.take j) := by
            rw [RES.out]
            refine hgd.stop hjf ?_
            rw [kvAt_get hjf, hfe.out]
            unfold okTo
            cases to with
            | nil => exact absurd rfl hto
            | cons c tl => simpa using hl
          clear hh hi1 hi2 hgd hrow hnx
          go_wp2
          go_ret
          exact ⟨_, rfl, by rw [FIN.out]; exact FR.out.1, FR.out.2⟩
    · have e2 : decide ((i : Int) < (xs.length : Int)) = false := by simpa using hlt
      have e3 : decide (i < xs.length) = false := by simpa using hlt
      have FIN : Hid (range frm to most xs = fl.take j) := by
        have hjl2 : j = fl.length := by omega
        rw [hjl2] at hgd ⊢
        rw [RES.out, List.take_length]
        exact hgd.all
      clear hh hi1 hi2 hgd hrow hnx
      go_wp2
      go_ret
      exact ⟨_, rfl, by rw [FIN.out]; exact FR.out.1, FR.out.2⟩
end Go.Proofs.Ytekcphpeaoaaaaa

/- Package table: highest. -/
namespace Go.Proofs.Ytekcphpeaoaaaaa
open Go.RowKit Go.Shelf
set_option linter.unusedVariables false

attribute [local go_sem] Oper.semAt_some

set_option maxRecDepth 100000 in
set_option maxHeartbeats 2000000 in
theorem highest_any (w : World) (b o c : Nat) (p0 : Pr) (rs : List Pr) (hv : RdC w (.slice (some ⟨b, o, none⟩) (p0 :: rs).length c) (p0 :: rs)) (hk : ∀ p ∈ p0 :: rs, p.k.length ≤ 100000) (ht : ∀ p ∈ rs, top p0.k p.k = true) (hn : (p0 :: rs).length ≤ 100000000) :
    Calls Try.prog 35 #[.slice (some ⟨b, o, none⟩) (p0 :: rs).length c] w fun e w' => e = .returned (.bool true) ∧ Nx w w' := by
  obtain ⟨N, hN⟩ : ∃ N, (p0 :: rs).length = N := ⟨_, rfl⟩
  have AT : Hid (∀ V, Nx w V → ∀ i (hi : i < (p0 :: rs).length), V.cell? ⟨b, o + i * 3, none⟩ = some (.string (S (p0 :: rs)[i].k))) := fun V hV i hi => by
    obtain ⟨A', c', e, _, _, e5 | ⟨b', o', e5, hc⟩⟩ := hv.nx hV
    · cases e5
    · simp only [Value.slice.injEq] at e
      obtain ⟨rfl, _, rfl⟩ := e
      simp only [Option.some.injEq, Addr.mk.injEq, and_true] at e5
      obtain ⟨rfl, rfl⟩ := e5
      exact (Rd.cells hc i hi).1
  have HK := Lib.hid hk
  have HT := Lib.hid ht
  have hN1 : 1 ≤ N := by rw [← hN]; simp
  rw [hN] at hn ⊢
  have HN := Lib.hid hN
  have N0 := Lib.hid (Nx.refl w)
  have c0 : ∀ V, Nx w V → V.cell? ⟨b, o, none⟩ = some (.string (S p0.k)) := fun V hV => by
    have := AT.out V hV 0 (by rw [HN.out]; omega)
    rw [Nat.zero_mul, Nat.add_zero] at this
    exact this
  have C0 := Lib.hid c0
  have e5 : (0 : Int) < (N : Int) := by omega
  have e6 : 0 < N := by omega
  clear hv hk ht hN c0
  go_enter Try.func35, Try.ntmps35
  go_wp2
  go_loopg [3] N (fun n p3 wr => ∃ (i : Nat), p3 = .int .i64 (i : Int) ∧ Hid (1 ≤ i ∧ i + n = N + 1 ∧ Nx w wr))
  case atStart => exact ⟨1, rfl, Nat.le_refl _, by omega, N0.out⟩
  case round =>
    obtain ⟨i, rfl, hh⟩ := hrel
    obtain ⟨hi1, hi2, hnx⟩ := hh.out
    have HNX := Lib.hid hnx
    by_cases hlt : i < N
    · have hil : i < (p0 :: rs).length := by rw [HN.out]; exact hlt
      have AI := Lib.hid (fun V hV => AT.out V hV i hil)
      have hkp := HK.out _ (List.getElem_mem hil)
      have hk0 := HK.out p0 List.mem_cons_self
      have htp : top p0.k (p0 :: rs)[i].k = true := by
        obtain ⟨j, rfl⟩ : ∃ j, i = j + 1 := ⟨i - 1, by omega⟩
        exact HT.out _ (by rw [List.getElem_cons_succ]; exact List.getElem_mem _)
      generalize (p0 :: rs)[i] = p at *
      have x0 := AI.out wr hnx
      have z0 := C0.out wr hnx
      have e2 : decide ((i : Int) < (N : Int)) = true := by simp; omega
      have e3 : (i : Int) < (N : Int) := by omega
      have e4 : (0 : Int) ≤ (i : Int) := by omega
      have hw : IntKind.i64.wrap ((i : Int) + 1) = (i : Int) + 1 := IntWalk.i64_in _ (by omega)
      have RA : Hid (∀ V, Calls Try.prog 12 #[.string (S p0.k)] V fun e w' => e = .returned (.int .u32 (rank p0.k)) ∧ Nx V w') := fun V => rank_any V p0.k (by omega)
      have RB : Hid (∀ V, Calls Try.prog 12 #[.string (S p.k)] V fun e w' => e = .returned (.int .u32 (rank p.k)) ∧ Nx V w') := fun V => rank_any V p.k (by omega)
      have KC : Hid (∀ V, Nx wr V → V.cell? ⟨b, o, none⟩ = some (.string (S p0.k)) ∧ V.cell? ⟨b, o + i * 3, none⟩ = some (.string (S p.k))) := fun V hV => ⟨C0.out V (hnx.trans hV), AI.out V (hnx.trans hV)⟩
      have NXT : Hid (gk - 1 < gk ∧ 1 ≤ i + 1 ∧ i + 1 + (gk - 1) = N + 1) := ⟨by omega, by omega, by omega⟩
      have d1 : decide (rank p0.k < rank p.k) = false := by
        rcases top_iff.1 htp with h | ⟨h, _⟩ <;> (simp; omega)
      have HTP := Lib.hid htp
      clear hh hi1 hi2 hnx hlt hil hkp hk0 htp
      generalize p.k = kb at *
      go_wp2_with fail
      go_region_held3 (fun V => V.cell? ⟨b, o, none⟩ = some (.string (S p0.k)) ∧ V.cell? ⟨b, o + i * 3, none⟩ = some (.string (S kb)))
        (first | exact KC.out _ N4.out | exact KC.out _ N3.out | exact KC.out _ (Nx.drew (Nx.refl wr)) | go_keep)
        ((first
          | (go_at_call_of 12 p0; refine (RA.out _).mono ?_; rintro e w3 ⟨rfl, hn3⟩; first | (have N4 := Lib.hid (N3.out.trans hn3); clear hn3) | (have N3 := Lib.hid ((Nx.drew (Nx.refl wr)).trans hn3); clear hn3))
          | (go_at_call_of 12 kb; refine (RB.out _).mono ?_; rintro e w4 ⟨rfl, hn4⟩; first | (have N4 := Lib.hid (N3.out.trans hn4); clear hn4) | (have N3 := Lib.hid ((Nx.drew (Nx.refl wr)).trans hn4); clear hn4))))
      obtain ⟨z1, x1⟩ := KC.out _ N4.out
      clear x0 z0
      rcases top_iff.1 HTP.out with h | ⟨h, h3⟩
      · have d2 : (rank p0.k == rank kb) = false := by simp; omega
        clear h
        go_wp2_with fail
        go_quiet (fail)
        go_wp2
        go_roundg (gk - 1)
        case measure => exact NXT.out.1
        case rel => exact ⟨i + 1, by push_cast; rfl, NXT.out.2.1, NXT.out.2.2, (HNX.out.trans N4.out).drewN _⟩
      · have d2 : (rank p0.k == rank kb) = true := by simp; omega
        have d3 : Op.bytesLess (S p0.k).toList (S kb).toList = true := by rw [S_lt]; exact h3
        clear h h3
        go_wp2_with fail
        go_quiet (fail)
        go_wp2
        go_roundg (gk - 1)
        case measure => exact NXT.out.1
        case rel => exact ⟨i + 1, by push_cast; rfl, NXT.out.2.1, NXT.out.2.2, (HNX.out.trans N4.out).drewN _⟩
    · have e2 : decide ((i : Int) < (N : Int)) = false := by simp; omega
      have e3 : decide (i < N) = false := by simp; omega
      clear hh hi1 hi2 hnx hlt
      go_wp2
      go_ret
      exact ⟨rfl, HNX.out⟩
end Go.Proofs.Ytekcphpeaoaaaaa

/- Pick. -/
namespace Go.Proofs.Ytekcphpeaoaaaaa
open Go.RowKit
set_option linter.unusedVariables false

set_option maxRecDepth 100000
theorem neg_lt_tmod (n m : Int) (h : 0 < m) : -m < n.tmod m := by
  have := Int.tmod_lt_of_pos (-n) h
  rw [Int.neg_tmod] at this
  omega
/-- What Pick returns. -/
def pickOf (n m : Int) : Int := if n.tmod m < 0 then n.tmod m + m else n.tmod m
theorem pick_any (n m : Int) (w : World) (h1 : 1 ≤ m) (h2 : m ≤ 4611686018427387904) (h3 : -9223372036854775808 ≤ n) (h4 : n ≤ 9223372036854775807) :
    Calls Try.prog 34 #[.int .i64 n, .int .i64 m] w fun e w' => e = .returned (.int .i64 (pickOf n m)) ∧ w = w' := by
  have hm0 : ¬ m = 0 := by omega
  have t1 := Int.tmod_lt_of_pos n (show 0 < m by omega)
  have t2 := neg_lt_tmod n m (by omega)
  unfold pickOf
  by_cases hneg : n.tmod m < 0
  · rw [if_pos hneg]
    go_enter Try.func34, Try.ntmps34
    go_wp2
    go_ret
    exact ⟨rfl, rfl⟩
  · rw [if_neg hneg]
    go_enter Try.func34, Try.ntmps34
    go_wp2
    go_ret
    exact ⟨rfl, rfl⟩
theorem pickOf_lo (n m : Int) (h : 1 ≤ m) : 0 ≤ pickOf n m := by
  unfold pickOf
  have := neg_lt_tmod n m (by omega)
  split <;> omega
theorem pickOf_hi (n m : Int) (h : 1 ≤ m) : pickOf n m < m := by
  unfold pickOf
  have := Int.tmod_lt_of_pos n (show 0 < m by omega)
  split <;> omega
end Go.Proofs.Ytekcphpeaoaaaaa

/- Package table, the reference: Next. -/
namespace Go.Proofs.Ytekcphpeaoaaaaa
open Go.RowKit Go.Shelf
set_option linter.unusedVariables false

attribute [local go_sem] Oper.semAt_some

theorem results_cell_tmp' {P : Program} {fn : Func} {p q : Tmp} {ty : TypeId} (h : fn.results = #[.cell p ty, .tmp q]) (tmps : Array Value) (w : World) (g : Addr) (v : Value)
    (hp : tmps.getD p undef = .pointer (some g)) (h1 : (loadVar ty g).run P w = .ok v w) :
    (results fn tmps).run P w = .ok (.tuple #[v, tmps.getD q undef]) w := by
  rw [results_cell_tmp h, hp]
  simp [asAddr, h1, Result.andThen]
theorem find_drop (key : Str) (xs : List KV) (i : Nat) (h : i < xs.length) : (xs.drop i).find? (fun e => lt key e.1) = if lt key xs[i].1 then some xs[i] else (xs.drop (i + 1)).find? fun e => lt key e.1 := by
  rw [List.drop_eq_getElem_cons h, List.find?_cons]
  cases lt key xs[i].1 <;> rfl

set_option maxRecDepth 100000 in
set_option maxHeartbeats 1000000 in
theorem rnext_any (w : World) (T' : Value) (xs : List KV) (key : Str) (h : Rt w T' xs) (hn : xs.length ≤ 100000000) :
    Calls Try.prog 19 #[T', .string (S key)] w fun e w' => e = .returned (nextV (next key xs)) ∧ Nx w w' := by
  obtain ⟨s, rfl, hr, _⟩ := h
  obtain ⟨A, c, rfl⟩ : ∃ A c, s = .slice A xs.length c := by
    obtain ⟨A, c, e, _⟩ := hr
    rw [List.length_map] at e
    exact ⟨A, c, e⟩
  obtain ⟨W, hW⟩ : ∃ W, (w.alloc (.cells #[.slice A xs.length c] 36)).alloc (.cells #[.string ⟨#[]⟩, .string ⟨#[]⟩, .bool false] 40) = W := ⟨_, rfl⟩
  have n1 : Nx w W := by rw [← hW]; exact ((Nx.refl w).alloc _).alloc _
  have hb0 : BlkIs W w.heap.size 36 #[.slice A xs.length c] := by rw [← hW]; exact (box_blk w _ _).nx ((Nx.refl _).alloc _)
  have hb1 : BlkIs W (w.heap.size + 1) 40 #[.string ⟨#[]⟩, .string ⟨#[]⟩, .bool false] := by
    rw [← hW]
    have := BlkIs.new (w.alloc (.cells #[.slice A xs.length c] 36)) 40 #[.string ⟨#[]⟩, .string ⟨#[]⟩, .bool false]
    rwa [World.size_alloc] at this
  have c0 : W.cell? ⟨w.heap.size, 0, none⟩ = some (.slice A xs.length c) := by rw [hb0.cell]; rfl
  have k0 : W.cell? ⟨w.heap.size + 1, 0, none⟩ = some (.string ⟨#[]⟩) := by rw [hb1.cell]; rfl
  have k1 : W.cell? ⟨w.heap.size + 1, 1, none⟩ = some (.string ⟨#[]⟩) := by rw [hb1.cell]; rfl
  have k2 : W.cell? ⟨w.heap.size + 1, 2, none⟩ = some (.bool false) := by rw [hb1.cell]; rfl
  have f0 := hb1.frozen 0
  have f1 := hb1.frozen 1
  have f2 := hb1.frozen 2
  have HR := Lib.hid (hr.nx n1)
  have FIN : Hid (∀ p : Pr, BlkIs (((W.setCell ⟨w.heap.size + 1, 0, none⟩ (.string (S p.k))).setCell ⟨w.heap.size + 1, 1, none⟩ (.string (S p.v))).setCell ⟨w.heap.size + 1, 2, none⟩ (.bool p.g)) (w.heap.size + 1) 40 #[.string (S p.k), .string (S p.v), .bool p.g] ∧
      Nx w (((W.setCell ⟨w.heap.size + 1, 0, none⟩ (.string (S p.k))).setCell ⟨w.heap.size + 1, 1, none⟩ (.string (S p.v))).setCell ⟨w.heap.size + 1, 2, none⟩ (.bool p.g))) := fun p =>
    ⟨((hb1.set 0 _).set 1 _).set 2 _, ((n1.set _ _ _ (by omega)).set _ _ _ (by omega)).set _ _ _ (by omega)⟩
  have HNX : Hid (next key xs = (xs.drop 0).find? fun e => lt key e.1) := rfl
  clear hr n1 hb0 hb1
  go_enter Try.func19, Try.ntmps19
  go_wp2
  go_loopg [6] xs.length (fun n p6 wr => ∃ (i : Nat), p6 = .int .i64 (i : Int) ∧ W = wr ∧ Hid (i + n = xs.length ∧ next key xs = (xs.drop i).find? fun e => lt key e.1))
  case atStart => exact ⟨0, rfl, by first | rfl | exact hW, by omega, HNX.out⟩
  case round =>
    obtain ⟨i, rfl, rfl, hh⟩ := hrel
    obtain ⟨hi, hp⟩ := hh.out
    by_cases hlt : i < xs.length
    · rw [find_drop key xs i hlt] at hp
      have e2 : decide ((i : Int) < (xs.length : Int)) = true := by simpa using hlt
      have e3 : (0 : Int) ≤ (i : Int) := by omega
      have e4 : (i : Int) < (xs.length : Int) := by omega
      obtain ⟨b, o, rfl⟩ := HR.out.addr (by rw [List.length_map]; omega)
      obtain ⟨x0, x1, x2⟩ := HR.out.key i hlt
      generalize xs[i] = ev at *
      have hw : IntKind.i64.wrap ((i : Int) + 1) = (i : Int) + 1 := IntWalk.i64_in _ (by omega)
      by_cases hl : lt key ev.1 = true
      · rw [if_pos hl] at hp
        have d1 : Op.bytesLess (S ev.1).toList (S key).toList = false := by rw [S_lt]; exact lt_asymm hl
        have d2 : ((S ev.1).toList == (S key).toList) = false := by rw [S_eq]; simpa using (lt_ne hl).symm
        have HP := Lib.hid hp
        obtain ⟨g1, g2⟩ := FIN.out (prOf ev)
        have G1 := Lib.hid g1
        have G2 := Lib.hid g2
        clear hh hi hp hlt hl g1 g2
        go_wp2_with fail
        refine bodyPost_ret (results_cell_tmp' rfl _ _ ⟨w.heap.size + 1, 0, none⟩ (prV (prOf ev)) rfl (run_loadVar_row _ _ _ _ _ _ _ G1.out Try.underlying40 rfl (by kernel_rfl))) rfl ?_
        exact ⟨by rw [HP.out]; rfl, G2.out⟩
      · rw [if_neg hl] at hp
        have hg : lt key ev.1 = false := by simpa using hl
        have NXT : Hid (gk - 1 < gk ∧ i + 1 + (gk - 1) = xs.length ∧ next key xs = (xs.drop (i + 1)).find? fun e => lt key e.1) := ⟨by omega, by omega, hp⟩
        clear hh hi hp hlt hl
        by_cases hl2 : lt ev.1 key = true
        · have d1 : Op.bytesLess (S ev.1).toList (S key).toList = true := by rw [S_lt]; exact hl2
          clear hl2 hg
          go_wp2
          go_roundg (gk - 1)
          case measure => exact NXT.out.1
          case rel => exact ⟨i + 1, by push_cast; rfl, rfl, NXT.out.2⟩
        · have d1 : Op.bytesLess (S ev.1).toList (S key).toList = false := by rw [S_lt]; simpa using hl2
          have d2 : ((S ev.1).toList == (S key).toList) = true := by rw [S_eq]; simpa using lt_conn (by simpa using hl2) hg
          clear hl2 hg
          go_wp2
          go_roundg (gk - 1)
          case measure => exact NXT.out.1
          case rel => exact ⟨i + 1, by push_cast; rfl, rfl, NXT.out.2⟩
    · have e2 : decide ((i : Int) < (xs.length : Int)) = false := by simpa using hlt
      have e3 : decide (i < xs.length) = false := by simpa using hlt
      have HP : Hid (next key xs = none) := by rw [hp, List.drop_eq_nil_of_le (by omega)]; rfl
      obtain ⟨g1, g2⟩ := FIN.out ⟨[], [], false⟩
      have G1 := Lib.hid g1
      have G2 := Lib.hid g2
      clear hh hi hp hlt g1 g2
      go_wp2_with fail
      refine bodyPost_ret (results_cell_tmp' rfl _ _ ⟨w.heap.size + 1, 0, none⟩ (prV ⟨[], [], false⟩) rfl (run_loadVar_row _ _ _ _ _ _ _ G1.out Try.underlying40 rfl (by kernel_rfl))) rfl ?_
      exact ⟨by rw [HP.out]; rfl, G2.out⟩
end Go.Proofs.Ytekcphpeaoaaaaa

/- Package table, the reference: Place, Get. -/
import Derived.Test.YtekcphpeaoaaaaaTbChgP
namespace Go.Proofs.Ytekcphpeaoaaaaa
open Go.RowKit Go.Shelf
set_option linter.unusedVariables false

attribute [local go_sem] Oper.semAt_some

/-- A table of the reference with these pairs. -/
def Pln (s : Value) : Prop := s = .slice none 0 0 ∨ ∃ b o n c, s = .slice (some ⟨b, o, none⟩) n c
theorem Row.pln {w : World} {B : Nat} {v : Value} {l : List Pr} (h : Row w B v l) : Pln v := by
  rcases h.2 with ⟨rfl, h0⟩ | ⟨g, cap, cur, rfl, _⟩
  · exact .inl rfl
  · exact .inr ⟨_, _, _, _, rfl⟩
def Rt (w : World) (T' : Value) (xs : List KV) : Prop := ∃ s, T' = .agg #[s] ∧ RdC w s (xs.map prOf) ∧ Pln s
theorem Rt.nx {w w' : World} {T' : Value} {xs : List KV} (h : Rt w T' xs) (k : Nx w w') : Rt w' T' xs := by
  obtain ⟨s, e, hr, hp⟩ := h
  exact ⟨s, e, hr.nx k, hp⟩
theorem Rt.zero (w : World) : Rt w (.agg #[.slice none 0 0]) [] := ⟨_, rfl, ⟨none, 0, rfl, Nat.le_refl _, by omega, .inl rfl⟩, .inl rfl⟩
theorem place_step (key : Str) (xs : List KV) (i : Nat) (h : i < xs.length) : place key (xs.drop i) = if lt xs[i].1 key then place key (xs.drop (i + 1)) + 1 else 0 := by
  rw [List.drop_eq_getElem_cons h]; rfl
/-- The cells of a table's element. -/
theorem RdC.key {w : World} {b o c n : Nat} {xs : List KV} (h : RdC w (.slice (some ⟨b, o, none⟩) n c) (xs.map prOf)) (i : Nat) (hi : i < xs.length) :
    w.cell? ⟨b, o + i * 3, none⟩ = some (.string (S xs[i].1)) ∧ w.cell? ⟨b, o + i * 3 + 1, none⟩ = some (.string (S xs[i].2)) ∧ w.cell? ⟨b, o + i * 3 + 2, none⟩ = some (.bool false) := by
  obtain ⟨A, c', e, _, _, e2 | ⟨b', o', e', hc⟩⟩ := h
  · rw [List.map_eq_nil_iff] at e2; subst e2; cases hi
  · simp only [Value.slice.injEq] at e
    obtain ⟨rfl, _, rfl⟩ := e
    simp only [Option.some.injEq, Addr.mk.injEq, and_true] at e'
    obtain ⟨rfl, rfl⟩ := e'
    have := Rd.cells hc i (by rw [List.length_map]; exact hi)
    rw [List.getElem_map] at this
    exact this

set_option maxRecDepth 100000 in
theorem rplace_any (w : World) (T' : Value) (xs : List KV) (key : Str) (h : Rt w T' xs) (hn : xs.length ≤ 100000000) :
    Calls Try.prog 26 #[T', .string (S key)] w fun e w' => e = .returned (.int .i64 (place key xs : Nat)) ∧ Nx w w' := by
  obtain ⟨s, rfl, hr, _⟩ := h
  obtain ⟨A, c, rfl⟩ : ∃ A c, s = .slice A xs.length c := by
    obtain ⟨A, c, e, _⟩ := hr
    rw [List.length_map] at e
    exact ⟨A, c, e⟩
  obtain ⟨W, hW⟩ : ∃ W, w.alloc (.cells #[.slice A xs.length c] 36) = W := ⟨_, rfl⟩
  have n1 : Nx w W := by rw [← hW]; exact (Nx.refl w).alloc _
  have hb0 : BlkIs W w.heap.size 36 #[.slice A xs.length c] := by rw [← hW]; exact box_blk w _ _
  have c0 : W.cell? ⟨w.heap.size, 0, none⟩ = some (.slice A xs.length c) := by rw [hb0.cell]; rfl
  have N1 := Lib.hid n1
  have HR := Lib.hid (hr.nx n1)
  clear hr n1 hb0
  go_enter Try.func26, Try.ntmps26
  go_wp2
  go_loopg [5] xs.length (fun n p5 wr => ∃ (i : Nat), p5 = .int .i64 (i : Int) ∧ W = wr ∧ Hid (i + n = xs.length ∧ i + place key (xs.drop i) = place key xs))
  case atStart => exact ⟨0, rfl, by first | rfl | exact hW, by omega, by simp⟩
  case round =>
    obtain ⟨i, rfl, rfl, hh⟩ := hrel
    obtain ⟨hi, hp⟩ := hh.out
    by_cases hlt : i < xs.length
    · have hst := place_step key xs i hlt
      have e2 : decide ((i : Int) < (xs.length : Int)) = true := by simpa using hlt
      have e3 : (0 : Int) ≤ (i : Int) := by omega
      have e4 : (i : Int) < (xs.length : Int) := by omega
      obtain ⟨b, o, rfl⟩ : ∃ b o, A = some ⟨b, o, none⟩ := by
        obtain ⟨A', c', e, _, _, e5 | ⟨b, o, e5, _⟩⟩ := HR.out
        · rw [List.map_eq_nil_iff] at e5; subst e5; cases hlt
        · simp only [Value.slice.injEq] at e
          exact ⟨b, o, by rw [e.1, e5]⟩
      have x0 := (HR.out.key i hlt).1
      generalize xs[i] = ev at *
      have hw : IntKind.i64.wrap ((i : Int) + 1) = (i : Int) + 1 := IntWalk.i64_in _ (by omega)
      by_cases hl : lt ev.1 key = true
      · rw [if_pos hl] at hst
        have d1 : Op.bytesLess (S ev.1).toList (S key).toList = true := by rw [S_lt]; exact hl
        have NXT : Hid (gk - 1 < gk ∧ i + 1 + (gk - 1) = xs.length ∧ i + 1 + place key (xs.drop (i + 1)) = place key xs) := ⟨by omega, by omega, by omega⟩
        clear hh hi hp hst hlt hl
        go_wp2
        go_roundg (gk - 1)
        case measure => exact NXT.out.1
        case rel => exact ⟨i + 1, by push_cast; rfl, rfl, NXT.out.2⟩
      · rw [if_neg hl] at hst
        have d1 : Op.bytesLess (S ev.1).toList (S key).toList = false := by rw [S_lt]; simpa using hl
        have HE : Hid ((i : Int) = (place key xs : Nat)) := by show _ = _; omega
        clear hh hi hp hst hlt hl
        go_wp2
        go_ret
        exact ⟨by rw [HE.out]; rfl, N1.out⟩
    · have e2 : decide ((i : Int) < (xs.length : Int)) = false := by simpa using hlt
      have e3 : decide (i < xs.length) = false := by simpa using hlt
      have HE : Hid ((i : Int) = (place key xs : Nat)) := by
        have h1 : xs.drop i = [] := List.drop_eq_nil_of_le (by omega)
        rw [h1] at hp
        have h2 : place key ([] : List KV) = 0 := rfl
        show _ = _
        omega
      clear hh hi hp hlt
      go_wp2
      go_ret
      exact ⟨by rw [HE.out]; rfl, N1.out⟩
end Go.Proofs.Ytekcphpeaoaaaaa

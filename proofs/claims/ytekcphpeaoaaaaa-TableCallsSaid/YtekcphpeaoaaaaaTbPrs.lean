/- Package table: slices of pairs that are read; Pairs. -/
import Derived.Test.YtekcphpeaoaaaaaTbChanges
import Derived.Laws.StructEq
namespace Go.Proofs.Ytekcphpeaoaaaaa
open Go.RowKit Go.Shelf
set_option linter.unusedVariables false

attribute [local go_sem] Oper.semAt_some

theorem Pr.eq_iff (p q : Pr) : p = q ↔ p.k = q.k ∧ p.v = q.v ∧ p.g = q.g := by
  obtain ⟨a, b, c⟩ := p
  obtain ⟨d, e, f⟩ := q
  simp
instance : DecidableEq Pr := fun p q => decidable_of_iff _ (Pr.eq_iff p q).symm
theorem run_equal_pair (W : World) (p q : Pr) : (Op.equalIn 10000 40 (prV p) (prV q)).run Try.prog W = .ok (decide (p = q)) W := by
  have hu := Try.underlying40
  unfold prV
  rw [run_equalIn_struct (d := 9999) W 40 _ _ (by rw [hu]; unfold Program.fieldsOf; rw [hu]) (by kernel_rfl)]
  simp [go_sem, hu]
  simp only [S_toList]
  by_cases h1 : p.k = q.k
  · by_cases h2 : p.v = q.v
    · by_cases h3 : p.g = q.g
      · rw [if_pos h1, if_pos h2, if_pos h3, decide_eq_true ((Pr.eq_iff p q).2 ⟨h1, h2, h3⟩)]
      · rw [if_pos h1, if_pos h2, if_neg h3, decide_eq_false fun e => h3 ((Pr.eq_iff p q).1 e).2.2]
    · rw [if_pos h1, if_neg h2, decide_eq_false fun e => h2 ((Pr.eq_iff p q).1 e).2.1]
  · rw [if_neg h1, decide_eq_false fun e => h1 ((Pr.eq_iff p q).1 e).1]

/-- A slice from which these pairs are read. -/
def Rd (w : World) (v : Value) (l : List Pr) : Prop :=
  (∃ A c, v = .slice A 0 c ∧ l = []) ∨ ∃ b o c, v = .slice (some ⟨b, o, none⟩) l.length c ∧ ∀ (j : Nat) (u : Value), (prsC l)[j]? = some u → w.cell? ⟨b, o + j, none⟩ = some u
theorem prsC_at (l : List Pr) (i : Nat) (h : i < l.length) (k : Nat) (hk : k < 3) : (prsC l)[i * 3 + k]? = (prC l[i])[k]? := by
  induction l generalizing i with
  | nil => cases h
  | cons p l ih =>
    show (prC p ++ prsC l)[i * 3 + k]? = _
    have hl : (prC p).length = 3 := rfl
    cases i with
    | zero => rw [Nat.zero_mul, Nat.zero_add, List.getElem?_append_left (by omega)]; rfl
    | succ i =>
      rw [List.getElem?_append_right (by omega)]
      have : (i + 1) * 3 + k - (prC p).length = i * 3 + k := by omega
      rw [this]
      exact ih i (by simpa using h)
theorem Rd.cells {w : World} {b o : Nat} {l : List Pr} (h : ∀ (j : Nat) (u : Value), (prsC l)[j]? = some u → w.cell? ⟨b, o + j, none⟩ = some u) (i : Nat) (hi : i < l.length) :
    w.cell? ⟨b, o + i * 3, none⟩ = some (.string (S l[i].k)) ∧ w.cell? ⟨b, o + i * 3 + 1, none⟩ = some (.string (S l[i].v)) ∧ w.cell? ⟨b, o + i * 3 + 2, none⟩ = some (.bool l[i].g) :=
  ⟨h _ _ (prsC_at l i hi 0 (by omega)), by have := h (i * 3 + 1) _ (prsC_at l i hi 1 (by omega)); rwa [← Nat.add_assoc] at this, by have := h (i * 3 + 2) _ (prsC_at l i hi 2 (by omega)); rwa [← Nat.add_assoc] at this⟩
theorem Rd.nx {w w' : World} {v : Value} {l : List Pr} (h : Rd w v l) (k : Nx w w') : Rd w' v l := by
  rcases h with h | ⟨b, o, c, rfl, hc⟩
  · exact .inl h
  · exact .inr ⟨b, o, c, rfl, fun j u hu => by
      have h1 := hc j u hu
      rw [World.cell?_of_block (k.block b (World.block_lt_of_cell? w ⟨b, o + j, none⟩ h1))]; exact h1⟩
theorem Row.rd {w : World} {B : Nat} {v : Value} {l : List Pr} (h : Row w B v l) : Rd w v l := by
  have hr := h
  rcases h.2 with ⟨rfl, h0⟩ | ⟨g, cap, cur, rfl, _⟩
  · exact .inl ⟨none, 0, rfl, List.eq_nil_of_length_eq_zero h0⟩
  · exact .inr ⟨g, 0, cap, rfl, fun j u hu => by
      have := World.ownsRow.cells (w := w) hr (g := g) rfl j u hu
      rwa [add_plain] at this⟩

set_option maxRecDepth 100000 in
theorem pairs_any (w : World) (va vb : Value) (a b : List Pr) (ha : Rd w va a) (hb : Rd w vb b) (hn : a.length ≤ 1000000000) :
    Calls Try.prog 22 #[va, vb] w fun e w' => e = .returned (.bool (decide (a = b))) ∧ Nx w w' := by
  have hva : ∃ A c, va = .slice A a.length c := by rcases ha with ⟨_, c, rfl, rfl⟩ | ⟨_, _, c, rfl, _⟩ <;> exact ⟨_, _, rfl⟩
  have hvb : ∃ A c, vb = .slice A b.length c := by rcases hb with ⟨_, c, rfl, rfl⟩ | ⟨_, _, c, rfl, _⟩ <;> exact ⟨_, _, rfl⟩
  obtain ⟨A, ca, rfl⟩ := hva
  obtain ⟨B, cb, rfl⟩ := hvb
  have HA := Lib.hid ha
  have HB := Lib.hid hb
  by_cases hl : a.length = b.length
  · have e1 : ((a.length : Int) == (b.length : Int)) = true := by rw [hl]; simp
    clear ha hb
    go_enter Try.func22, Try.ntmps22
    go_wp2
    go_loopg [5] a.length (fun n p5 wr => ∃ (i : Nat), p5 = .int .i64 (i : Int) ∧ Hid (i + n = a.length ∧ a.take i = b.take i ∧ ∃ q, wr = w.drewN q))
    case atStart => exact ⟨0, rfl, by omega, by simp, 0, rfl⟩
    case round =>
      obtain ⟨i, rfl, hh⟩ := hrel
      obtain ⟨hi, htk, q, hwr⟩ := hh.out
      by_cases hlt : i < a.length
      · have e2 : decide ((i : Int) < (a.length : Int)) = true := by simpa using hlt
        have e3 : (0 : Int) ≤ (i : Int) := by omega
        have e4 : (i : Int) < (a.length : Int) := by omega
        have hlt2 : i < b.length := hl ▸ hlt
        have e5 : (i : Int) < (b.length : Int) := by omega
        rcases HA.out with ⟨_, _, _, e⟩ | ⟨ba, oa, c1, ea, hca⟩
        · rw [e] at hlt; cases hlt
        · rcases HB.out with ⟨_, _, _, e⟩ | ⟨bb, ob, c2, eb, hcb⟩
          · rw [e] at hlt2; cases hlt2
          · simp only [Value.slice.injEq] at ea eb
            obtain ⟨rfl, _, rfl⟩ := ea
            obtain ⟨rfl, _, rfl⟩ := eb
            have hib : i < b.length := by omega
            obtain ⟨x0, x1, x2⟩ := Rd.cells hca i hlt
            obtain ⟨y0, y1, y2⟩ := Rd.cells hcb i hib
            have hE := fun W => run_equal_pair W a[i] b[i]
            unfold prV at hE
            have HLL := Lib.hid hl
            have HTK := Lib.hid htk
            have HI := Lib.hid hi
            by_cases hp : a[i] = b[i]
            · rw [decide_eq_true hp] at hE
              have NXT : Hid (gk - 1 < gk ∧ i + 1 + (gk - 1) = a.length ∧ a.take (i + 1) = b.take (i + 1)) := by
                refine ⟨by omega, by omega, ?_⟩
                rw [List.take_succ_eq_append_getElem hlt, List.take_succ_eq_append_getElem hib, htk, hp]
              have hw : IntKind.i64.wrap ((i : Int) + 1) = (i : Int) + 1 := IntWalk.i64_in _ (by omega)
              generalize a[i] = pa at *
              generalize b[i] = pb at *
              clear hca hcb hl htk hi hh hp hib hlt
              go_wp2_with fail
              go_quiet (fail)
              go_wp2
              go_roundg (gk - 1)
              case measure => exact NXT.out.1
              case rel => exact ⟨i + 1, by push_cast; rfl, NXT.out.2.1, NXT.out.2.2, _, rfl⟩
            · rw [decide_eq_false hp] at hE
              have FIN : Hid (decide (a = b) = false) := by
                apply decide_eq_false
                intro e
                subst e
                exact hp rfl
              generalize a[i] = pa at *
              generalize b[i] = pb at *
              clear hca hcb hl htk hi hh hp hib hlt
              go_wp2_with fail
              go_quiet (fail)
              go_wp2
              go_ret
              exact ⟨by rw [FIN.out]; rfl, (Nx.drewN (Nx.refl w) _).drewN _⟩
      · have e2 : decide ((i : Int) < (a.length : Int)) = false := by simpa using hlt
        have e3 : decide (i < b.length) = false := by rw [← hl]; simpa using hlt
        have FIN : Hid (decide (a = b) = true) := by
          apply decide_eq_true
          rw [List.take_of_length_le (by omega), List.take_of_length_le (by omega)] at htk
          exact htk
        clear hh htk hi hlt
        go_wp2
        go_ret
        exact ⟨by rw [FIN.out]; rfl, Nx.drewN (Nx.refl w) _⟩
  · have e1 : ((a.length : Int) == (b.length : Int)) = false := by simpa using fun e => hl (by exact_mod_cast e)
    have FIN : Hid (decide (a = b) = false) := decide_eq_false fun e => hl (by rw [e])
    clear ha hb hl
    go_enter Try.func22, Try.ntmps22
    go_wp2
    go_ret
    exact ⟨by rw [FIN.out]; rfl, Nx.refl w⟩
end Go.Proofs.Ytekcphpeaoaaaaa

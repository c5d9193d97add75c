/- Package table: a slice of pairs, as it came in. -/
import Derived.Test.YtekcphpeaoaaaaaTbLives
import Derived.Deep.Slices
import Derived.OpenShut
import Derived.ChangeSlices
namespace Go.Proofs.Ytekcphpeaoaaaaa
open Go.RowKit Go.Maps Go.ChangeShapes Go.WideShapes Go.ChangeAt Go.Deep
set_option linter.unusedVariables false

theorem cellsPr : Try.prog.cellsOf 40 = 3 := by kernel_rfl
theorem cellsStr : Try.prog.cellsOf 9 = 1 := by kernel_rfl
theorem cellsBl : Try.prog.cellsOf 4 = 1 := by kernel_rfl
theorem three {α : Type} : ∀ {l : List α}, l.length = 3 → ∃ a b c, l = [a, b, c]
  | [a, b, c], _ => ⟨a, b, c, rfl⟩
/-- Strings are no longer than Go lets them be. -/
def PrIn (p : Pr) : Prop := p.k.length ≤ 9223372036854775807 ∧ p.v.length ≤ 9223372036854775807
set_option maxRecDepth 100000 in
theorem pr_of_trod {H : Type} {enc : TypeId × Value → H} {W : World} {fuel : Nat} {cs : List Value} {x : DataW H × List MemPlace} (hf : DataW.trod enc Try.prog W 0 (fun _ => true) true fuel 40 cs = some x) : ∃ p : Pr, cs = prC p ∧ PrIn p := by
  obtain ⟨xs, n, _, rfl, hl, hlen, hfd⟩ := DataW.trod_struct Try.underlying40 hf
  rw [cellsPr] at hl
  have hlen3 : xs.length = 3 := hlen
  obtain ⟨c0, c1, c2, rfl⟩ := three hl
  obtain ⟨y0, y1, y2, rfl⟩ := three hlen3
  clear hl hlen hlen3
  have t0 : DataW.trod enc Try.prog W 0 (fun _ => true) true n 9 (([c0, c1, c2].drop 0).take (Try.prog.cellsOf 9)) = some y0 := hfd 0 _ rfl
  have t1 : DataW.trod enc Try.prog W 0 (fun _ => true) true n 9 (([c0, c1, c2].drop 1).take (Try.prog.cellsOf 9)) = some y1 := hfd 1 _ rfl
  have t2 : DataW.trod enc Try.prog W 0 (fun _ => true) true n 4 (([c0, c1, c2].drop 2).take (Try.prog.cellsOf 4)) = some y2 := hfd 2 _ rfl
  rw [cellsStr] at t0 t1
  rw [cellsBl] at t2
  obtain ⟨p, e0, -, k0⟩ := DataW.trod_string Try.underlying9 t0
  obtain ⟨q, e1, -, k1⟩ := DataW.trod_string Try.underlying9 t1
  obtain ⟨g, e2, -⟩ := DataW.trod_bool Try.underlying4 t2
  have e0' : c0 = .string p := by simpa using e0
  have e1' : c1 = .string q := by simpa using e1
  have e2' : c2 = .bool g := by simpa using e2
  refine ⟨⟨p.data.toList, q.data.toList, g⟩, ?_, ?_⟩
  · unfold prC
    rw [S_of, S_of, e0', e1', e2']
  · unfold maxLen at k0 k1
    rw [Lib.size_eq] at k0 k1
    exact ⟨by show p.data.toList.length ≤ _; omega, by show q.data.toList.length ≤ _; omega⟩
theorem list_of {β : Type} [Inhabited β] : ∀ (n : Nat) (p : Nat → β → Prop), (∀ i, i < n → ∃ c, p i c) → ∃ l : List β, l.length = n ∧ ∀ i (h : i < l.length), p i l[i]
  | 0, _, _ => ⟨[], rfl, fun i h => by cases h⟩
  | n + 1, p, h => by
    obtain ⟨c, hc⟩ := h 0 (Nat.zero_lt_succ _)
    obtain ⟨l, hl, hp⟩ := list_of n (fun i => p (i + 1)) (fun i hi => h (i + 1) (Nat.succ_lt_succ hi))
    refine ⟨c :: l, by rw [List.length_cons, hl], fun i hi => ?_⟩
    cases i with
    | zero => exact hc
    | succ i => exact hp i (by simpa using hi)
instance : Inhabited Pr := ⟨⟨[], [], false⟩⟩
theorem prs_of_trod {H : Type} {enc : TypeId × Value → H} {W : World} {a : Option Addr} {len cap fuel : Nat} {x : DataW H × List MemPlace} (hf : DataW.trod enc Try.prog W 0 (fun _ => true) true fuel 33 [.slice a len cap] = some x) :
    ∃ l : List Pr, l.length = len ∧ len ≤ cap ∧ cap ≤ maxLen ∧ Rd W (.slice a len cap) l ∧ ∀ p ∈ l, PrIn p := by
  rcases open_slice Try.underlying33 hf with ⟨hc, -⟩ | ⟨ad, len', cap', m, n, D, Pl, hc, hb, hl, hm, hmm, -, hall⟩
  · simp only [List.cons.injEq, and_true] at hc
    injection hc with h1 h2 h3
    subst h1 h2 h3
    exact ⟨[], rfl, Nat.le_refl _, Nat.zero_le _, .inl ⟨none, 0, rfl, rfl⟩, fun p hp => by cases hp⟩
  · simp only [List.cons.injEq, and_true] at hc
    injection hc with h1 h2 h3
    subst h1 h2 h3
    simp only [if_true] at hmm
    subst hmm
    rw [cellsPr] at hall
    obtain ⟨l, hl1, hl2⟩ := list_of len (fun i (c : Pr) => (∀ f, f < 3 → W.cell? ((ad.add (i * 3)).add f) = (prC c)[f]?) ∧ PrIn c) (fun i hi => by
      obtain ⟨cs', g1, g2⟩ := hall i (by omega)
      obtain ⟨-, -, g3⟩ := World.cells?_some g1
      obtain ⟨c, rfl, hc⟩ := pr_of_trod g2
      exact ⟨c, fun f hf => by rw [g3 f hf], hc⟩)
    refine ⟨l, hl1, hl, hm, ?_, fun p hp => ?_⟩
    · by_cases hn : len = 0
      · subst hn
        obtain rfl : l = [] := List.eq_nil_of_length_eq_zero hl1
        exact .inl ⟨_, _, rfl, rfl⟩
      · obtain ⟨b, o, spot⟩ := ad
        have h0 : W.cell? ((⟨b, o, spot⟩ : Addr).add (0 * 3) |>.add 0) = _ := (hl2 0 (by omega)).1 0 (by omega)
        have hs : spot = none := by simpa [Addr.add] using World.cell?_spot h0
        subst hs
        right
        refine ⟨b, o, _, by rw [hl1], fun j u hu => ?_⟩
        have hj : j < l.length * 3 := by rw [← prsC_length]; exact (List.getElem?_eq_some_iff.1 hu).1
        have e : j = j / 3 * 3 + j % 3 := by omega
        have := (hl2 (j / 3) (by omega)).1 (j % 3) (by omega)
        rw [add_plain, add_plain, Nat.add_assoc, ← e, ← prsC_at l (j / 3) (by omega) (j % 3) (by omega), ← e, hu] at this
        exact this
    · obtain ⟨i, hi, rfl⟩ := List.mem_iff_getElem.1 hp
      exact (hl2 i hi).2
end Go.Proofs.Ytekcphpeaoaaaaa

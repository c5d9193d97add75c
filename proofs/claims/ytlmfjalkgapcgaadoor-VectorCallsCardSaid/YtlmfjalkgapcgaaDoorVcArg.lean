/- Slices of counts, as they came in. -/
import Derived.Test.YtlmfjalkgapcgaaDoorVcMem
import Derived.Deep.Slices
import Derived.OpenShut
import Derived.ChangeSlices
import Derived.DataShut
namespace Go.Proofs.YtlmfjalkgapcgaaDoor
open Go.RowKit Go.Maps Go.ChangeShapes Go.WideShapes Go.ChangeAt Go.Deep
set_option linter.unusedVariables false

theorem cellsCt : Tryd.prog.cellsOf 29 = 2 := by kernel_rfl
theorem cellsInt : Tryd.prog.cellsOf 3 = 1 := by kernel_rfl
theorem cellsU64 : Tryd.prog.cellsOf 27 = 1 := by kernel_rfl
theorem two {α : Type} : ∀ {l : List α}, l.length = 2 → ∃ a b, l = [a, b]
  | [a, b], _ => ⟨a, b, rfl⟩
instance : Inhabited Ct := ⟨⟨0, 0⟩⟩
theorem listOf {β : Type} [Inhabited β] : ∀ (n : Nat) (p : Nat → β → Prop), (∀ i, i < n → ∃ c, p i c) → ∃ l : List β, l.length = n ∧ ∀ i (h : i < l.length), p i l[i]
  | 0, _, _ => ⟨[], rfl, fun i h => by cases h⟩
  | n + 1, p, h => by
    obtain ⟨c, hc⟩ := h 0 (Nat.zero_lt_succ _)
    obtain ⟨l, hl, hp⟩ := listOf n (fun i => p (i + 1)) (fun i hi => h (i + 1) (Nat.succ_lt_succ hi))
    refine ⟨c :: l, by rw [List.length_cons, hl], fun i hi => ?_⟩
    cases i with
    | zero => exact hc
    | succ i => exact hp i (by simpa using hi)
set_option maxRecDepth 100000 in
theorem ct_of_trod {H : Type} {enc : TypeId × Value → H} {W : World} {fuel : Nat} {cs : List Value} {x : DataW H × List MemPlace} (hf : DataW.trod enc Tryd.prog W 0 (fun _ => true) true fuel 29 cs = some x) : ∃ p : Ct, cs = ctE.e p ∧ CtOk p := by
  obtain ⟨xs, n, _, rfl, hl, hlen, hfd⟩ := DataW.trod_struct Tryd.underlying29 hf
  rw [cellsCt] at hl
  have hlen2 : xs.length = 2 := hlen
  obtain ⟨c0, c1, rfl⟩ := two hl
  obtain ⟨y0, y1, rfl⟩ := two hlen2
  clear hl hlen hlen2
  have t0 : DataW.trod enc Tryd.prog W 0 (fun _ => true) true n 3 (([c0, c1].drop 0).take (Tryd.prog.cellsOf 3)) = some y0 := hfd 0 _ rfl
  have t1 : DataW.trod enc Tryd.prog W 0 (fun _ => true) true n 27 (([c0, c1].drop 1).take (Tryd.prog.cellsOf 27)) = some y1 := hfd 1 _ rfl
  rw [cellsInt] at t0
  rw [cellsU64] at t1
  obtain ⟨p, e0, -, k0⟩ := DataW.trod_int Tryd.underlying3 t0
  obtain ⟨q, e1, -, k1⟩ := DataW.trod_int Tryd.underlying27 t1
  have e0' : c0 = .int .i64 p := by simpa using e0
  have e1' : c1 = .int .u64 q := by simpa using e1
  have w0 := (Lit.wf_int_iff .i64 _).1 k0
  have w1 : 0 ≤ q ∧ q ≤ 18446744073709551615 := (Lit.wf_int_iff .u64 _).1 k1
  have hq : ((q.toNat : Nat) : Int) = q := Int.toNat_of_nonneg w1.1
  refine ⟨⟨p, q.toNat⟩, ?_, w0.1, w0.2, ?_⟩
  · rw [e0', e1']
    show _ = [Value.int .i64 p, Value.int .u64 ((q.toNat : Nat) : Int)]
    rw [hq]
  · have := w1.2
    show q.toNat ≤ _
    omega
theorem cts_of_trod {H : Type} {enc : TypeId × Value → H} {W : World} {a : Option Addr} {len cap fuel : Nat} {x : DataW H × List MemPlace} (hf : DataW.trod enc Tryd.prog W 0 (fun _ => true) true fuel 23 [.slice a len cap] = some x) :
    ∃ l : List Ct, RdG ctE W (.slice a len cap) l ∧ CtsOk l := by
  rcases open_slice Tryd.underlying23 hf with ⟨hc, -⟩ | ⟨ad, len', cap', m, n, D, Pl, hc, hb, hl, hm, hmm, -, hall⟩
  · simp only [List.cons.injEq, and_true] at hc
    injection hc with h1 h2 h3
    subst h1 h2 h3
    exact ⟨[], RdG.zero _, fun p hp => by cases hp⟩
  · simp only [List.cons.injEq, and_true] at hc
    injection hc with h1 h2 h3
    subst h1 h2 h3
    simp only [if_true] at hmm
    subst hmm
    rw [cellsCt] at hall
    obtain ⟨l, hl1, hl2⟩ := listOf len (fun i (c : Ct) => (∀ f, f < 2 → W.cell? ((ad.add (i * 2)).add f) = (ctE.e c)[f]?) ∧ CtOk c) (fun i hi => by
      obtain ⟨cs', g1, g2⟩ := hall i (by omega)
      obtain ⟨-, -, g3⟩ := World.cells?_some g1
      obtain ⟨c, rfl, hc⟩ := ct_of_trod g2
      exact ⟨c, fun f hf => by rw [g3 f hf], hc⟩)
    refine ⟨l, ⟨_, _, by rw [hl1], by omega, hm, ?_⟩, fun p hp => ?_⟩
    · by_cases hn : len = 0
      · subst hn
        exact .inl (List.eq_nil_of_length_eq_zero hl1)
      · obtain ⟨b, o, spot⟩ := ad
        have h0 : W.cell? ((⟨b, o, spot⟩ : Addr).add (0 * 2) |>.add 0) = _ := (hl2 0 (by omega)).1 0 (by omega)
        have hs : spot = none := by simpa [Addr.add] using World.cell?_spot h0
        subst hs
        right
        refine ⟨b, o, rfl, fun j u hu => ?_⟩
        have hj : j < l.length * 2 := by
          have := cs_length (E := ctE) l
          have h2 : ctE.k = 2 := rfl
          rw [h2] at this
          rw [← this]; exact (List.getElem?_eq_some_iff.1 hu).1
        have e : j = j / 2 * 2 + j % 2 := by omega
        have h1 := (hl2 (j / 2) (by omega)).1 (j % 2) (by omega)
        have h2 := cs_at (E := ctE) l (j / 2) (by omega) (j % 2) (by show _ < 2; omega)
        rw [show j / 2 * ctE.k + j % 2 = j from e.symm, hu] at h2
        rw [add_plain, add_plain, Nat.add_assoc, ← e, ← h2] at h1
        exact h1
    · obtain ⟨i, hi, rfl⟩ := List.mem_iff_getElem.1 hp
      exact (hl2 i hi).2
end Go.Proofs.YtlmfjalkgapcgaaDoor

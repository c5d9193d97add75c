/- Package tree: a slice of calls, as it came in. -/
import Derived.Test.YtodnckflobefpaaTrActs
import Derived.Deep.Slices
namespace Go.Proofs.Ytodnckflobefpaa
open Go.RowKit Go.Maps Go.ChangeShapes Go.WideShapes Go.ChangeAt Go.Deep
set_option linter.unusedVariables false

instance : Inhabited Ac := ⟨⟨0, [], [], none, 0, 0, 0, none, 0, 0⟩⟩
theorem acts_of_trod {H : Type} {enc : TypeId × Value → H} {W : World} {a : Option Addr} {len cap fuel : Nat} {x : DataW H × List MemPlace} (hf : DataW.trod enc Try.prog W 0 (fun _ => true) true fuel 41 [.slice a len cap] = some x) : ∃ l : Nat → Ac, Acts W a len cap l ∧ ∀ i, i < len → ActIn W (l i) := by
  rcases open_slice Try.underlying41 hf with ⟨hc, -⟩ | ⟨ad, len', cap', m, n, D, Pl, hc, hb, hl, hm, hmm, -, hall⟩
  · simp only [List.cons.injEq, and_true] at hc
    injection hc with h1 h2 h3
    subst h1 h2 h3
    exact ⟨fun _ => default, ⟨Nat.le_refl _, Nat.zero_le _, fun h => absurd h (by omega)⟩, fun i hi => absurd hi (by omega)⟩
  · simp only [List.cons.injEq, and_true] at hc
    injection hc with h1 h2 h3
    subst h1 h2 h3
    simp only [if_true] at hmm
    subst hmm
    rw [cellsAct] at hall
    obtain ⟨l, hl2⟩ := choose_lt (n := len) (p := fun i (c : Ac) => (∀ f, f < 6 → W.cell? ((ad.add (i * 6)).add f) = c.cs[f]?) ∧ ActIn W c) (fun i hi => by
      obtain ⟨cs', g1, g2⟩ := hall i (by omega)
      obtain ⟨-, -, g3⟩ := World.cells?_some g1
      obtain ⟨c, rfl, hc⟩ := act_of_trod g2
      exact ⟨c, fun f hf => by rw [g3 f hf]; simp, hc⟩)
    refine ⟨l, ⟨hl, hm, fun hn => ?_⟩, fun i hi => (hl2 i hi).2⟩
    obtain ⟨b, o, spot⟩ := ad
    have h0 : W.cell? ((⟨b, o, spot⟩ : Addr).add (0 * 6) |>.add 0) = some _ := (hl2 0 hn).1 0 (by omega)
    have hs : spot = none := by simpa [Addr.add] using World.cell?_spot h0
    subst hs
    refine ⟨b, o, rfl, by simpa [add_plain] using World.block_lt_of_cell? W _ h0, fun i hi f hf => ?_⟩
    have := (hl2 i hi).1 f hf
    rw [add_plain, add_plain] at this
    exact this
end Go.Proofs.Ytodnckflobefpaa

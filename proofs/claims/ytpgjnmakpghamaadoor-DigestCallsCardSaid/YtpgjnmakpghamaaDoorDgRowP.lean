/- A slice of slices of bytes and a digest, as the shell of a law hands them over. -/
import Derived.Test.YtpgjnmakpghamaaDoorDgRow
import Derived.Test.YtpgjnmakpghamaaDoorDgParts
import Derived.Deep.Slices
import Derived.OpenShut
namespace Go.Proofs.YtpgjnmakpghamaaDoor
open Go.ChangeShapes Go.WideShapes Go.ChangeAt Go.RowKit Go.Deep
set_option linter.unusedVariables false

theorem cellsSl : Tryd.prog.cellsOf 33 = 1 := by kernel_rfl
theorem cellsU8 : Tryd.prog.cellsOf 5 = 1 := by kernel_rfl
theorem cellsDg : Tryd.prog.cellsOf 23 = 32 := by kernel_rfl

theorem parts_of_trod {H : Type} {enc : TypeId × Value → H} {W : World} {a : Option Addr} {len cap fuel : Nat} {x : DataW H × List MemPlace} (hf : DataW.trod enc Tryd.prog W 0 (fun _ => true) true fuel 46 [.slice a len cap] = some x) : Parts W a len cap := by
  rcases open_slice1 Tryd.underlying46 cellsSl hf with ⟨hc, -⟩ | ⟨ad, len', cap', m, k, V, D, Pl, hc, _, hl, hm, hmm, hx, hall⟩
  · simp only [List.cons.injEq, and_true] at hc
    injection hc with h1 h2 h3
    subst h1 h2 h3
    exact ⟨Nat.le_refl _, Nat.zero_le _, fun h => absurd h (by omega)⟩
  · simp only [List.cons.injEq, and_true] at hc
    injection hc with h1 h2 h3
    subst h1 h2 h3
    simp only [if_true] at hmm
    subst hmm
    refine ⟨hl, hm, fun hn => ?_⟩
    obtain ⟨b, o, spot⟩ := ad
    have h0 := (hall 0 (by omega)).1
    have hs : spot = none := by simpa [Addr.add] using World.cell?_spot h0
    subst hs
    refine ⟨b, o, rfl, by simpa [add_plain] using World.block_lt_of_cell? W _ h0, fun i hi => ?_⟩
    obtain ⟨h1, t1⟩ := hall i (by omega)
    rw [add_plain] at h1
    rcases open_ints Tryd.underlying33 Tryd.underlying5 cellsU8 t1 with ⟨hcs, _⟩ | ⟨x, l, c, zs, hcs, _, hl, hm, hz, _, hcell, hwz⟩
    · simp only [List.cons.injEq, and_true] at hcs
      rw [hcs] at h1
      exact ⟨none, 0, 0, [], h1, Byt.none_ _ _⟩
    · simp only [List.cons.injEq, and_true] at hcs
      rw [hcs] at h1
      obtain ⟨li, hb, -⟩ := row_byt (w := W) (a := some x) (len := l) (cap := c) (zs := zs) (.inr ⟨x, rfl, hl, hm, by simpa using hz, hcell, hwz⟩)
      exact ⟨some x, l, c, li, h1, hb⟩

theorem digest_okWide {W : World} {r : Reach} {b0 : Nat} {v : Value} (h : Value.okWide Tryd.prog W r b0 23 v) : ∃ xs : Array Value, v = .agg xs ∧ xs.size = 32 := by
  simp only [Value.okWide, Tryd.underlying23] at h
  obtain ⟨cs, h1, h2, _⟩ := h
  exact ⟨cs, h1, by rw [h2, cellsDg]⟩

theorem digest_of_trod {H : Type} {enc : TypeId × Value → H} {W : World} {fuel : Nat} {x : DataW H × List MemPlace} {xs : Array Value} (hn : xs.size = 32) (hf : DataW.trod enc Tryd.prog W 0 (fun _ => true) true fuel 23 (Value.agg xs).cells.toList = some x) : ∃ d : List Nat, d.length = 32 ∧ Bytes d ∧ xs = u8s d := by
  obtain ⟨ys, m, rfl, _, hl, hys, hall⟩ := DataW.trod_array Tryd.underlying23 hf
  have hcs : (Value.agg xs).cells.toList = xs.toList := rfl
  rw [hcs, cellsU8] at hall
  have each : ∀ i, ∃ z : Nat, i < 32 → xs[i]? = some (.int .u8 (z : Int)) ∧ z < 256 := fun i => by
    by_cases hi : i < 32
    · have h1 := hall i hi
      rw [List.getElem?_eq_getElem (by omega), Nat.mul_one] at h1
      obtain ⟨z, e, -, hw⟩ := DataW.trod_int Tryd.underlying5 h1
      have hb := wf8 hw
      have e0 := congrArg (fun l : List Value => l[0]?) e
      simp at e0
      refine ⟨z.toNat, fun _ => ⟨?_, by omega⟩⟩
      rw [show ((z.toNat : Nat) : Int) = z by omega]
      exact e0
    · exact ⟨0, fun h => absurd h hi⟩
  obtain ⟨f, hf⟩ := Classical.skolem.1 each
  have hlen : ((List.range 32).map f).length = 32 := by simp
  refine ⟨(List.range 32).map f, hlen, fun i => ?_, ?_⟩
  · by_cases hi : i < 32
    · have := (hf i hi).2
      rw [List.getD, List.getElem?_map, List.getElem?_range hi]
      exact this
    · rw [List.getD, List.getElem?_eq_none (by rw [hlen]; omega)]
      decide
  · refine Array.ext_getElem? fun i => ?_
    by_cases hi : i < 32
    · rw [(hf i hi).1, u8s_get _ i (by rw [hlen]; exact hi), List.getD, List.getElem?_map, List.getElem?_range hi]
      rfl
    · rw [Array.getElem?_eq_none (by omega), Array.getElem?_eq_none (by rw [u8s_size, hlen]; omega)]
end Go.Proofs.YtpgjnmakpghamaaDoor

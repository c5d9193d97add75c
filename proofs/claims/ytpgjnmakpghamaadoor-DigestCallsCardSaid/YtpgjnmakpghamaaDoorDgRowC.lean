/- Arrays of words and of bytes, as the shell of a law hands them over. -/
import Derived.Test.YtpgjnmakpghamaaDoorDgRowP
namespace Go.Proofs.YtpgjnmakpghamaaDoor
open Go.ChangeShapes Go.WideShapes Go.ChangeAt Go.RowKit Go.Deep
set_option linter.unusedVariables false

theorem cellsU32 : Tryd.prog.cellsOf 28 = 1 := by kernel_rfl
theorem cellsW8 : Tryd.prog.cellsOf 29 = 8 := by kernel_rfl
theorem cellsB64 : Tryd.prog.cellsOf 35 = 64 := by kernel_rfl

theorem words8_okWide {W : World} {r : Reach} {b0 : Nat} {v : Value} (h : Value.okWide Tryd.prog W r b0 29 v) : ∃ xs : Array Value, v = .agg xs ∧ xs.size = 8 := by
  simp only [Value.okWide, Tryd.underlying29] at h
  obtain ⟨cs, h1, h2, _⟩ := h
  exact ⟨cs, h1, by rw [h2, cellsW8]⟩
theorem blk64_okWide {W : World} {r : Reach} {b0 : Nat} {v : Value} (h : Value.okWide Tryd.prog W r b0 35 v) : ∃ xs : Array Value, v = .agg xs ∧ xs.size = 64 := by
  simp only [Value.okWide, Tryd.underlying35] at h
  obtain ⟨cs, h1, h2, _⟩ := h
  exact ⟨cs, h1, by rw [h2, cellsB64]⟩

theorem words8_of_trod {H : Type} {enc : TypeId × Value → H} {W : World} {fuel : Nat} {x : DataW H × List MemPlace} {xs : Array Value} (hn : xs.size = 8) (hf : DataW.trod enc Tryd.prog W 0 (fun _ => true) true fuel 29 (Value.agg xs).cells.toList = some x) : ∃ d : List Nat, d.length = 8 ∧ Words d ∧ xs = u32s d := by
  obtain ⟨ys, m, rfl, _, hl, hys, hall⟩ := DataW.trod_array Tryd.underlying29 hf
  have hcs : (Value.agg xs).cells.toList = xs.toList := rfl
  rw [hcs, cellsU32] at hall
  have each : ∀ i, ∃ z : Nat, i < 8 → xs[i]? = some (.int .u32 (z : Int)) ∧ z < 4294967296 := fun i => by
    by_cases hi : i < 8
    · have h1 := hall i hi
      rw [List.getElem?_eq_getElem (by omega), Nat.mul_one] at h1
      obtain ⟨z, e, -, hw⟩ := DataW.trod_int Tryd.underlying28 h1
      have hb := wf32 hw
      have e0 := congrArg (fun l : List Value => l[0]?) e
      simp at e0
      refine ⟨z.toNat, fun _ => ⟨?_, by omega⟩⟩
      rw [show ((z.toNat : Nat) : Int) = z by omega]
      exact e0
    · exact ⟨0, fun h => absurd h hi⟩
  obtain ⟨f, hf⟩ := Classical.skolem.1 each
  have hlen : ((List.range 8).map f).length = 8 := by simp
  refine ⟨(List.range 8).map f, hlen, fun i => ?_, ?_⟩
  · by_cases hi : i < 8
    · have := (hf i hi).2
      rw [List.getD, List.getElem?_map, List.getElem?_range hi]
      exact this
    · rw [List.getD, List.getElem?_eq_none (by rw [hlen]; omega)]
      decide
  · refine Array.ext_getElem? fun i => ?_
    by_cases hi : i < 8
    · rw [(hf i hi).1, u32s_get _ i (by rw [hlen]; exact hi), List.getD, List.getElem?_map, List.getElem?_range hi]
      rfl
    · rw [Array.getElem?_eq_none (by omega), Array.getElem?_eq_none (by rw [u32s_size, hlen]; omega)]
theorem blk64_of_trod {H : Type} {enc : TypeId × Value → H} {W : World} {fuel : Nat} {x : DataW H × List MemPlace} {xs : Array Value} (hn : xs.size = 64) (hf : DataW.trod enc Tryd.prog W 0 (fun _ => true) true fuel 35 (Value.agg xs).cells.toList = some x) : ∃ d : List Nat, d.length = 64 ∧ Bytes d ∧ xs = u8s d := by
  obtain ⟨ys, m, rfl, _, hl, hys, hall⟩ := DataW.trod_array Tryd.underlying35 hf
  have hcs : (Value.agg xs).cells.toList = xs.toList := rfl
  rw [hcs, cellsU8] at hall
  have each : ∀ i, ∃ z : Nat, i < 64 → xs[i]? = some (.int .u8 (z : Int)) ∧ z < 256 := fun i => by
    by_cases hi : i < 64
    · have h1 := hall i hi
      rw [List.getElem?_eq_getElem (by omega), Nat.mul_one] at h1
      obtain ⟨z, e, -, hw⟩ := DataW.trod_int Tryd.underlying5 h1
      have hb := wf8 hw
      have e0 := congrArg (fun l : List Value => l[0]?) e
      simp at e0
      refine ⟨z.toNat, fun _ => ⟨?_, by omega⟩⟩
      rw [show ((z.toNat : Nat) : Int) = z by omega]
      exact e0
    · exact ⟨0, fun h => absurd h hi⟩
  obtain ⟨f, hf⟩ := Classical.skolem.1 each
  have hlen : ((List.range 64).map f).length = 64 := by simp
  refine ⟨(List.range 64).map f, hlen, fun i => ?_, ?_⟩
  · by_cases hi : i < 64
    · have := (hf i hi).2
      rw [List.getD, List.getElem?_map, List.getElem?_range hi]
      exact this
    · rw [List.getD, List.getElem?_eq_none (by rw [hlen]; omega)]
      decide
  · refine Array.ext_getElem? fun i => ?_
    by_cases hi : i < 64
    · rw [(hf i hi).1, u8s_get _ i (by rw [hlen]; exact hi), List.getD, List.getElem?_map, List.getElem?_range hi]
      rfl
    · rw [Array.getElem?_eq_none (by omega), Array.getElem?_eq_none (by rw [u8s_size, hlen]; omega)]
end Go.Proofs.YtpgjnmakpghamaaDoor

/- A slice of bytes, as it came in. -/
import Derived.Test.YtlmfjalkgapcgaaDoorVcArg
namespace Go.Proofs.YtlmfjalkgapcgaaDoor
open Go.RowKit Go.Maps Go.ChangeShapes Go.WideShapes Go.ChangeAt Go.Deep
set_option linter.unusedVariables false

theorem cellsU8 : Tryd.prog.cellsOf 5 = 1 := by kernel_rfl
set_option maxRecDepth 100000 in
theorem byte_of_trod {H : Type} {enc : TypeId × Value → H} {W : World} {fuel : Nat} {cs : List Value} {x : DataW H × List MemPlace} (hf : DataW.trod enc Tryd.prog W 0 (fun _ => true) true fuel 5 cs = some x) : ∃ u : UInt8, cs = [.int .u8 (u.toNat : Int)] := by
  obtain ⟨p, e0, -, k0⟩ := DataW.trod_int Tryd.underlying5 hf
  have w0 : 0 ≤ p ∧ p ≤ 255 := (Lit.wf_int_iff .u8 _).1 k0
  refine ⟨UInt8.ofNat p.toNat, ?_⟩
  have : ((UInt8.ofNat p.toNat).toNat : Int) = p := by
    rw [UInt8.toNat_ofNat']
    omega
  rw [this]
  exact e0
theorem byt_of_trod {H : Type} {enc : TypeId × Value → H} {W : World} {a : Option Addr} {len cap fuel : Nat} {x : DataW H × List MemPlace} (hf : DataW.trod enc Tryd.prog W 0 (fun _ => true) true fuel 34 [.slice a len cap] = some x) :
    ∃ l : List UInt8, Byt W W.heap.size a len cap l := by
  rcases open_slice Tryd.underlying34 hf with ⟨hc, -⟩ | ⟨ad, len', cap', m, n, D, Pl, hc, hb, hl, hm, hmm, -, hall⟩
  · simp only [List.cons.injEq, and_true] at hc
    injection hc with h1 h2 h3
    subst h1 h2 h3
    exact ⟨[], Byt.none_ _ _⟩
  · simp only [List.cons.injEq, and_true] at hc
    injection hc with h1 h2 h3
    subst h1 h2 h3
    simp only [if_true] at hmm
    subst hmm
    rw [cellsU8] at hall
    obtain ⟨l, hl1, hl2⟩ := listOf len (fun i (u : UInt8) => W.cell? ((ad.add (i * 1)).add 0) = some (.int .u8 (u.toNat : Int))) (fun i hi => by
      obtain ⟨cs', g1, g2⟩ := hall i (by omega)
      obtain ⟨-, -, g3⟩ := World.cells?_some g1
      obtain ⟨u, rfl⟩ := byte_of_trod g2
      exact ⟨u, by rw [g3 0 (by omega)]; rfl⟩)
    refine ⟨l, ⟨hl1, by omega, hm, fun hn => ?_⟩⟩
    obtain ⟨b, o, spot⟩ := ad
    have h0 := hl2 0 (by omega)
    have hs : spot = none := by simpa [Addr.add] using World.cell?_spot h0
    subst hs
    have hc : ∀ j, j < len → W.cell? ⟨b, o + j, none⟩ = some (.int .u8 (nth l j)) := fun j hj => by
      have h1 := hl2 j (by omega)
      rw [add_plain, add_plain, Nat.mul_one, Nat.add_zero] at h1
      rw [h1]
      simp [nth, List.getElem?_eq_getElem (show j < l.length by omega)]
    exact ⟨b, o, rfl, World.block_lt_of_cell? W _ (hc 0 hn), hc⟩
end Go.Proofs.YtlmfjalkgapcgaaDoor

/- Package tree: the calls that a law is handed, as they came in. -/
import Derived.Test.YtodnckflobefpaaTrSmall
import Derived.Test.YtodnckflobefpaaRow
import Derived.OpenShut
import Derived.ChangeSlices
namespace Go.Proofs.Ytodnckflobefpaa
open Go.RowKit Go.Maps Go.ChangeShapes Go.WideShapes Go.ChangeAt
set_option linter.unusedVariables false

theorem cellsAct : Try.prog.cellsOf 39 = 6 := by kernel_rfl
theorem cellsInt : Try.prog.cellsOf 3 = 1 := by kernel_rfl
theorem cellsStr : Try.prog.cellsOf 9 = 1 := by kernel_rfl
theorem cellsBytes : Try.prog.cellsOf 29 = 1 := by kernel_rfl
theorem cellsInts : Try.prog.cellsOf 37 = 1 := by kernel_rfl
theorem cellsByte : Try.prog.cellsOf 5 = 1 := by kernel_rfl
structure ActIn (w : World) (a : Ac) : Prop where
  k1 : -9223372036854775808 ≤ a.K
  k2 : a.K ≤ 9223372036854775807
  b : ∃ b, Arg w a.A a.n a.c b
  n : a.n ≤ 9223372036854775807
  N1 : -9223372036854775808 ≤ a.N
  N2 : a.N ≤ 9223372036854775807
  ps : a.n4 ≤ 100000 → ∃ ps, Nums w a.A4 a.n4 a.c4 ps
  n4 : a.n4 ≤ 9223372036854775807
theorem six {α : Type} : ∀ {l : List α}, l.length = 6 → ∃ a b c d e f, l = [a, b, c, d, e, f]
  | [a, b, c, d, e, f], _ => ⟨a, b, c, d, e, f, rfl⟩
set_option maxRecDepth 100000 in
theorem act_of_trod {H : Type} {enc : TypeId × Value → H} {W : World} {fuel : Nat} {cs : List Value} {x : DataW H × List MemPlace} (hf : DataW.trod enc Try.prog W 0 (fun _ => true) true fuel 39 cs = some x) : ∃ a : Ac, cs = a.cs.toList ∧ ActIn W a := by
  obtain ⟨xs, n, _, rfl, hl, hlen, hfd⟩ := DataW.trod_struct Try.underlying39 hf
  rw [cellsAct] at hl
  have hlen6 : xs.length = 6 := hlen
  obtain ⟨c0, c1, c2, c3, c4, c5, rfl⟩ := six hl
  obtain ⟨y0, y1, y2, y3, y4, y5, rfl⟩ := six hlen6
  clear hl hlen hlen6
  have t0 : DataW.trod enc Try.prog W 0 (fun _ => true) true n 3 (([c0, c1, c2, c3, c4, c5].drop 0).take (Try.prog.cellsOf 3)) = some y0 := hfd 0 _ rfl
  have t1 : DataW.trod enc Try.prog W 0 (fun _ => true) true n 9 (([c0, c1, c2, c3, c4, c5].drop 1).take (Try.prog.cellsOf 9)) = some y1 := hfd 1 _ rfl
  have t2 : DataW.trod enc Try.prog W 0 (fun _ => true) true n 9 (([c0, c1, c2, c3, c4, c5].drop 2).take (Try.prog.cellsOf 9)) = some y2 := hfd 2 _ rfl
  have t3 : DataW.trod enc Try.prog W 0 (fun _ => true) true n 29 (([c0, c1, c2, c3, c4, c5].drop 3).take (Try.prog.cellsOf 29)) = some y3 := hfd 3 _ rfl
  have t4 : DataW.trod enc Try.prog W 0 (fun _ => true) true n 3 (([c0, c1, c2, c3, c4, c5].drop 4).take (Try.prog.cellsOf 3)) = some y4 := hfd 4 _ rfl
  have t5 : DataW.trod enc Try.prog W 0 (fun _ => true) true n 37 (([c0, c1, c2, c3, c4, c5].drop 5).take (Try.prog.cellsOf 37)) = some y5 := hfd 5 _ rfl
  rw [cellsInt] at t0 t4
  rw [cellsStr] at t1 t2
  rw [cellsBytes] at t3
  rw [cellsInts] at t5
  obtain ⟨K, e0, -, k0⟩ := DataW.trod_int Try.underlying3 t0
  obtain ⟨p, e1, -, -⟩ := DataW.trod_string Try.underlying9 t1
  obtain ⟨q, e2, -, -⟩ := DataW.trod_string Try.underlying9 t2
  obtain ⟨N, e4, -, k4⟩ := DataW.trod_int Try.underlying3 t4
  obtain ⟨A, n3, cap3, z3, e3, w3⟩ : ∃ a len cap zs, [c3] = [Value.slice a len cap] ∧ ((a = none ∧ len = 0 ∧ cap = 0 ∧ zs = []) ∨ ∃ x, a = some x ∧ len ≤ cap ∧ cap ≤ maxLen ∧ zs.length = cap ∧ (∀ i, i < zs.length → W.cell? (x.add i) = some (.int .u8 (zs.getD i 0))) ∧ ∀ n ∈ zs, (Lit.int .u8 n).wf = true) := by
    rcases open_ints Try.underlying29 Try.underlying5 cellsByte t3 with ⟨hcs, _⟩ | ⟨x, l, c, zs, hcs, _, hl, hm, hz, _, hcell, hwz⟩
    · exact ⟨none, 0, 0, [], hcs, .inl ⟨rfl, rfl, rfl, rfl⟩⟩
    · exact ⟨some x, l, c, zs, hcs, .inr ⟨_, rfl, hl, hm, by simpa using hz, hcell, hwz⟩⟩
  obtain ⟨A4, n4, cap4, z4, e5, w5⟩ : ∃ a len cap zs, [c5] = [Value.slice a len cap] ∧ ((a = none ∧ len = 0 ∧ cap = 0 ∧ zs = []) ∨ ∃ x, a = some x ∧ len ≤ cap ∧ cap ≤ maxLen ∧ zs.length = cap ∧ (∀ i, i < zs.length → W.cell? (x.add i) = some (.int .i64 (zs.getD i 0))) ∧ ∀ n ∈ zs, (Lit.int .i64 n).wf = true) := by
    rcases open_ints Try.underlying37 Try.underlying3 cellsInt t5 with ⟨hcs, _⟩ | ⟨x, l, c, zs, hcs, _, hl, hm, hz, _, hcell, hwz⟩
    · exact ⟨none, 0, 0, [], hcs, .inl ⟨rfl, rfl, rfl, rfl⟩⟩
    · exact ⟨some x, l, c, zs, hcs, .inr ⟨_, rfl, hl, hm, by simpa using hz, hcell, hwz⟩⟩
  have e0' : c0 = .int .i64 K := by simpa using e0
  have e1' : c1 = .string p := by simpa using e1
  have e2' : c2 = .string q := by simpa using e2
  have e3' : c3 = .slice A n3 cap3 := by simpa using e3
  have e4' : c4 = .int .i64 N := by simpa using e4
  have e5' : c5 = .slice A4 n4 cap4 := by simpa using e5
  obtain ⟨b, hb, -⟩ := row_byt w3
  have hle4 := row_le w5
  have hc4 : cap4 ≤ maxLen := by
    rcases w5 with ⟨_, _, rfl, _⟩ | ⟨_, _, _, h, _⟩
    · exact Nat.zero_le _
    · exact h
  have h3 := hb.le
  have h3c := hb.cap
  unfold maxLen at hc4 h3c
  refine ⟨⟨K, p.data.toList, q.data.toList, A, n3, cap3, N, A4, n4, cap4⟩, ?_, ⟨(wfi64 k0).1, (wfi64 k0).2, ⟨b, Arg.of_byt hb (Nat.le_refl _)⟩, by show n3 ≤ _; omega, (wfi64 k4).1, (wfi64 k4).2, fun h => row_nums w5 h, by show n4 ≤ _; omega⟩⟩
  unfold Ac.cs
  rw [S_of, S_of, e0', e1', e2', e3', e4', e5']
end Go.Proofs.Ytodnckflobefpaa

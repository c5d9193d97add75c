/- What is true of paths, their parts and their copies, as the laws ask it. -/
import Derived.Test.YtkffijgmcekboaaDoorPtLives
namespace Go.Proofs.YtkffijgmcekboaaDoor
open Go.RowKit
open Go.Lib (decDigits)
set_option linter.unusedVariables false

theorem pathOr_path {s : List UInt8} (h : isPath s = true) : pathOr s = s := by unfold pathOr; rw [if_pos h]
theorem pathOr_not {s : List UInt8} (h : isPath s = false) : pathOr s = [] := by unfold pathOr; rw [if_neg (by rw [h]; decide)]
theorem within_parts {f s : List UInt8} (h : within f s = true) : isPath s = true ∧ (f = [] ∨ (isPath f = true ∧ ∃ r, s = f ++ 47 :: r)) := by
  unfold within at h
  simp only [Bool.and_eq_true, Bool.or_eq_true, decide_eq_true_eq] at h
  refine ⟨h.1, ?_⟩
  rcases h.2 with h | ⟨h1, h2⟩
  · exact .inl h
  · obtain ⟨r, hr⟩ := List.isPrefixOf_iff_prefix.1 h2
    exact .inr ⟨h1, r, by rw [← hr]; simp⟩
theorem within_of {f s : List UInt8} (hs : isPath s = true) (h : f = [] ∨ (isPath f = true ∧ ∃ r, s = f ++ 47 :: r)) : within f s = true := by
  unfold within
  rw [hs, Bool.true_and]
  rcases h with h | ⟨h, r, hr⟩
  · simp [h]
  · have : (f ++ [47]).isPrefixOf s = true := List.isPrefixOf_iff_prefix.2 ⟨r, by rw [hr]; simp⟩
    rw [h, this]
    simp
theorem within_trans {a b c : List UInt8} (h1 : within a b = true) (h2 : within b c = true) : within a c = true := by
  obtain ⟨g1, g2⟩ := within_parts h1
  obtain ⟨k1, k2⟩ := within_parts h2
  refine within_of k1 ?_
  rcases g2 with g2 | ⟨g2, r, hr⟩
  · exact .inl g2
  · right
    refine ⟨g2, ?_⟩
    rcases k2 with k2 | ⟨k2, q, hq⟩
    · rw [k2] at g1
      exact absurd g1 (by decide)
    · exact ⟨r ++ 47 :: q, by rw [hq, hr]; simp⟩
theorem within_self (s : List UInt8) : within s s = false := by
  cases h : within s s with
  | false => rfl
  | true =>
    obtain ⟨h1, h2⟩ := within_parts h
    rcases h2 with h2 | ⟨_, r, hr⟩
    · rw [h2] at h1
      exact absurd h1 (by decide)
    · have := congrArg List.length hr
      simp at this
theorem within_nil {s : List UInt8} (h : isPath s = true) : within [] s = true := within_of h (.inl rfl)
theorem within_nil_not {s : List UInt8} (h : isPath s = false) : within [] s = false := by
  unfold within
  rw [h]
  rfl
theorem within_folder {s : List UInt8} (h : isPath s = true) (hf : folder s ≠ []) : isPath (folder s) = true ∧ within (folder s) s = true ∧ folder s ++ 47 :: base s = s := by
  have P := path_parts h
  have h1 : isPath (folder s) = true := by
    rcases P.fpath with h | h
    · exact absurd h hf
    · exact h
  have hw := P.whole
  unfold joined at hw
  rw [if_neg hf] at hw
  exact ⟨h1, within_of h (.inr ⟨h1, base s, hw⟩), hw.symm⟩
theorem base_whole {s : List UInt8} (h : isPath s = true) (hf : folder s = []) : base s = s := by
  have hw := (path_parts h).whole
  rw [hf] at hw
  exact hw.symm

/-- What a copy is: the law's questions. -/
structure CopyOf (s c : List UInt8) (d n : Int) : Prop where
  cpath : isPath c = true
  cfolder : folder c = folder s
  cending : ending (base s) = [] ∨ ending (base c) = ending (base s)
  again : copyR s d n = (c, 0)
  ne : c ≠ s
  spath : isPath s = true
theorem copy_of {s c : List UInt8} {d n : Int} (h : isCopy c s d n) : CopyOf s c d n := by
  obtain ⟨h1, h2, h3, rfl⟩ := copyR_ok.1 h
  obtain ⟨e1, e2⟩ := copyS_parts s d.toNat n.toNat
  refine ⟨h3, e1, ?_, h, ?_, h1⟩
  · rw [e2]
    rcases point_split (base s) with ⟨_, _, e⟩ | ⟨a, b, e, hb, g1, g2⟩
    · exact .inl e
    · right
      rw [g1, g2]
      exact (stem_some (a := a ++ mark d.toNat n.toNat) hb).2
  · intro e
    have hl : (base (copyS s d.toNat n.toNat)).length = (base s).length := congrArg (fun l => (base l).length) e
    rw [e2] at hl
    have := congrArg List.length (stem_ending (base s))
    simp only [List.length_append] at hl this
    have hm : 0 < (mark d.toNat n.toNat).length := List.length_pos_iff.2 (mark_ne_nil _ _)
    omega
theorem copyR_cases (s : List UInt8) (d n : Int) : (∃ e, copyR s d n = ([], e) ∧ (e = 2 ∨ e = 3)) ∨ (∃ c, copyR s d n = (c, 0) ∧ isCopy c s d n) := by
  have key : copyR s d n = ([], chk s) ∧ chk s ≠ 0 ∨ copyR s d n = ([], 2) ∨ copyR s d n = ([], 3) ∨ ∃ c, copyR s d n = (c, 0) := by
    unfold copyR
    split
    · exact .inl ⟨rfl, by assumption⟩
    · split
      · exact .inr (.inl rfl)
      · split
        · exact .inr (.inr (.inl rfl))
        · exact .inr (.inr (.inr ⟨_, rfl⟩))
  rcases key with ⟨h1, h2⟩ | h | h | ⟨c, h⟩
  · rcases chk_cases s with h0 | h0 | h0
    · exact absurd h0 h2
    · exact .inl ⟨2, by rw [h1, h0], .inl rfl⟩
    · exact .inl ⟨3, by rw [h1, h0], .inr rfl⟩
  · exact .inl ⟨2, h, .inl rfl⟩
  · exact .inl ⟨3, h, .inr rfl⟩
  · exact .inr ⟨c, h, h⟩
end Go.Proofs.YtkffijgmcekboaaDoor

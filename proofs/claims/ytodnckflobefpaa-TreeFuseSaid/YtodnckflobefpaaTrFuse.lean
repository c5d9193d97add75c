/- Package tree: a tree with a fuse beside one without; what files use. -/
import Derived.Test.YtodnckflobefpaaTrStamp
namespace Go.Proofs.Ytodnckflobefpaa
open Go.RowKit Go.Maps
set_option linter.unusedVariables false

def St.fz (s : St) (f : Int) : St := { s with fuse := f }
def St.dead (s : St) : St := { s with fuse := -1, off := true }
theorem ne0 : (0 : Int) ≠ 11 := by decide
theorem ne2 : (2 : Int) ≠ 11 := by decide
theorem ne7 : (7 : Int) ≠ 11 := by decide
theorem ne10 : (10 : Int) ≠ 11 := by decide
theorem begin_fz {s : St} (hi : Idle s) (f : Int) (hf : 0 ≤ f) (ps : List Str) : (s.fz f).begin_ ps = (s.dead, 11) ∨ ∃ f', 0 ≤ f' ∧ f' ≤ f ∧ (s.fz f).begin_ ps = (s.fz f', (s.begin_ ps).2) := by
  unfold St.begin_
  by_cases hp : ps.all okP = true
  · rw [if_pos hp, if_pos hp, burn_idle hi, hi.off]
    by_cases h0 : f = 0
    · subst h0
      left
      have e : (s.fz 0).burn = s.dead := by
        unfold St.burn St.fz St.dead
        simp
      rw [e]
      rfl
    · right
      have e : (s.fz f).burn = s.fz (f - 1) := by
        unfold St.burn St.fz
        simp only [decide_eq_false h0, Bool.or_false]
        congr 1
        omega
      rw [e]
      refine ⟨f - 1, by omega, by omega, ?_⟩
      have : (s.fz (f - 1)).off = false := hi.off
      rw [this]
      rfl
  · rw [if_neg hp, if_neg hp]
    exact .inr ⟨f, hf, Int.le_refl _, rfl⟩
theorem find_fz {s : St} (hi : Idle s) (f : Int) (hf : 0 ≤ f) (p : Str) (o : List Str) : (s.fz f).find p o = (s.dead, none, 11) ∨ ∃ f' r er, 0 ≤ f' ∧ f' ≤ f ∧ (s.fz f).find p o = (s.fz f', r, er) ∧ s.find p o = (s, r, er) ∧ er ≠ 11 ∧ ∀ g, r = some g → look s.files p = some g := by
  rw [find_eq, find_eq]
  obtain ⟨h1, h2⟩ := hi.begin (o ++ [p])
  rcases begin_fz hi f hf (o ++ [p]) with h | ⟨f', g1, g2, h⟩
  · rw [h]
    left
    simp
  · right
    rw [h, h1]
    refine ⟨f', _, _, g1, g2, rfl, rfl, ?_, fun g e => ?_⟩
    · rcases h2 with e | e <;> rw [e]
      · rw [if_pos rfl]
        show foundE (look s.files p) ≠ 11
        cases look s.files p
        · show (6 : Int) ≠ 11
          decide
        · exact ne0
      · simp
    · split at e
      · exact e
      · cases e
theorem left_fz (s : St) (f u : Int) : (s.fz f).left_ u = s.left_ u := rfl
theorem free_fz (s : St) (f : Int) (q : Str) : (s.fz f).free q = (s.free q).fz f := by
  unfold St.free
  show (match look s.files q with | none => _ | some g => _) = _
  cases look s.files q <;> rfl
/-- The fuse blows, and nothing is done; or the same is done, and the fuse is shorter. -/
theorem act_fz {s : St} (hi : Idle s) (f : Int) (hf : 0 ≤ f) (a : Ac) (b : Str) (ps : List Int) (h7 : pickOf a.K 10 ≠ 7) (h8 : pickOf a.K 10 ≠ 8) :
    (s.fz f).act a b ps = (s.dead, [], 11) ∨ ∃ f', 0 ≤ f' ∧ f' ≤ f ∧ (s.fz f).act a b ps = ((s.act a b ps).1.fz f', (s.act a b ps).2) ∧ (s.act a b ps).2.2 ≠ 11 := by
  unfold St.act
  rcases ten (pickOf_lo a.K 10 (by omega)) (pickOf_hi a.K 10 (by omega)) with e | e | e | e | e | e | e | e | e | e <;> rw [e]
  · show (((s.fz f).make a.p).1, ([] : Str), ((s.fz f).make a.p).2) = _ ∨ ∃ f', _ ∧ _ ∧ (((s.fz f).make a.p).1, ([] : Str), ((s.fz f).make a.p).2) = ((s.make a.p).1.fz f', [], (s.make a.p).2) ∧ (s.make a.p).2 ≠ 11
    obtain ⟨h1, h2⟩ := hi.begin [a.p]
    rcases begin_fz hi f hf [a.p] with h | ⟨f', g1, g2, h⟩
    · left
      unfold St.make
      rw [h]
      rfl
    · right
      refine ⟨f', g1, g2, ?_⟩
      unfold St.make
      rw [h]
      generalize s.begin_ [a.p] = r at *
      obtain ⟨s1, er⟩ := r
      simp only at h1 h2 ⊢
      subst h1
      rcases h2 with e | e
      · subst e
        simp only [if_pos]
        have hl : look (s1.fz f').files a.p = look s1.files a.p := rfl
        rw [hl]
        cases look s1.files a.p with
        | some g => exact ⟨rfl, ne7⟩
        | none => exact ⟨rfl, ne0⟩
      · subst e
        exact ⟨rfl, ne2⟩
  · show (((s.fz f).write a.p b).1, ([] : Str), ((s.fz f).write a.p b).2) = _ ∨ ∃ f', _ ∧ _ ∧ (((s.fz f).write a.p b).1, ([] : Str), ((s.fz f).write a.p b).2) = ((s.write a.p b).1.fz f', [], (s.write a.p b).2) ∧ (s.write a.p b).2 ≠ 11
    unfold St.write
    rcases find_fz hi f hf a.p [] with h | ⟨f', r, er, g1, g2, h, h2, h3, _⟩
    · rw [h]; exact .inl rfl
    · rw [h, h2]
      refine .inr ⟨f', g1, g2, ?_⟩
      cases r with
      | none => exact ⟨rfl, h3⟩
      | some g =>
        simp only
        by_cases hc : (b.length : Int) > s.left_ (s.used - ((s.at_ g).now.length : Int))
        · have hc2 : (b.length : Int) > (s.fz f').left_ ((s.fz f').used - (((s.fz f').at_ g).now.length : Int)) := hc
          simp only [if_pos hc, if_pos hc2]
          exact ⟨by first | rfl | trivial, ne10⟩
        · have hc2 : ¬ (b.length : Int) > (s.fz f').left_ ((s.fz f').used - (((s.fz f').at_ g).now.length : Int)) := hc
          simp only [if_neg hc, if_neg hc2]
          exact ⟨by first | rfl | trivial, ne0⟩
  · show (((s.fz f).append_ a.p b).1, ([] : Str), ((s.fz f).append_ a.p b).2) = _ ∨ ∃ f', _ ∧ _ ∧ (((s.fz f).append_ a.p b).1, ([] : Str), ((s.fz f).append_ a.p b).2) = ((s.append_ a.p b).1.fz f', [], (s.append_ a.p b).2) ∧ (s.append_ a.p b).2 ≠ 11
    unfold St.append_
    rcases find_fz hi f hf a.p [] with h | ⟨f', r, er, g1, g2, h, h2, h3, _⟩
    · rw [h]; exact .inl rfl
    · rw [h, h2]
      refine .inr ⟨f', g1, g2, ?_⟩
      cases r with
      | none => exact ⟨rfl, h3⟩
      | some g =>
        simp only
        by_cases hc : (b.length : Int) > s.left_ s.used
        · have hc2 : (b.length : Int) > (s.fz f').left_ (s.fz f').used := hc
          simp only [if_pos hc, if_pos hc2]
          exact ⟨by first | rfl | trivial, ne10⟩
        · have hc2 : ¬ (b.length : Int) > (s.fz f').left_ (s.fz f').used := hc
          simp only [if_neg hc, if_neg hc2]
          exact ⟨by first | rfl | trivial, ne0⟩
  · show (((s.fz f).sync a.p).1, ([] : Str), ((s.fz f).sync a.p).2) = _ ∨ ∃ f', _ ∧ _ ∧ (((s.fz f).sync a.p).1, ([] : Str), ((s.fz f).sync a.p).2) = ((s.sync a.p).1.fz f', [], (s.sync a.p).2) ∧ (s.sync a.p).2 ≠ 11
    unfold St.sync
    rcases find_fz hi f hf a.p [] with h | ⟨f', r, er, g1, g2, h, h2, h3, _⟩
    · rw [h]; exact .inl rfl
    · rw [h, h2]
      refine .inr ⟨f', g1, g2, ?_⟩
      cases r with
      | none => exact ⟨rfl, h3⟩
      | some g => exact ⟨rfl, ne0⟩
  · show (((s.fz f).syncPaths).1, ([] : Str), ((s.fz f).syncPaths).2) = _ ∨ ∃ f', _ ∧ _ ∧ (((s.fz f).syncPaths).1, ([] : Str), ((s.fz f).syncPaths).2) = ((s.syncPaths).1.fz f', [], (s.syncPaths).2) ∧ (s.syncPaths).2 ≠ 11
    rw [syncPaths_idle hi]
    unfold St.syncPaths
    rcases begin_fz hi f hf [] with h | ⟨f', g1, g2, h⟩
    · rw [h]; exact .inl rfl
    · rw [h, begin_idle hi [] rfl]
      exact .inr ⟨f', g1, g2, rfl, ne0⟩
  · show (((s.fz f).rename a.p a.q).1, ([] : Str), ((s.fz f).rename a.p a.q).2) = _ ∨ ∃ f', _ ∧ _ ∧ (((s.fz f).rename a.p a.q).1, ([] : Str), ((s.fz f).rename a.p a.q).2) = ((s.rename a.p a.q).1.fz f', [], (s.rename a.p a.q).2) ∧ (s.rename a.p a.q).2 ≠ 11
    unfold St.rename
    rcases find_fz hi f hf a.p [a.q] with h | ⟨f', r, er, g1, g2, h, h2, h3, _⟩
    · rw [h]; exact .inl rfl
    · rw [h, h2]
      refine .inr ⟨f', g1, g2, ?_⟩
      cases r with
      | none => exact ⟨rfl, h3⟩
      | some g =>
        simp only
        by_cases hc : a.p = a.q
        · simp only [if_pos hc]; exact ⟨by first | rfl | trivial, ne0⟩
        · simp only [if_neg hc, free_fz]; exact ⟨by first | rfl | trivial, ne0⟩
  · show (((s.fz f).remove a.p).1, ([] : Str), ((s.fz f).remove a.p).2) = _ ∨ ∃ f', _ ∧ _ ∧ (((s.fz f).remove a.p).1, ([] : Str), ((s.fz f).remove a.p).2) = ((s.remove a.p).1.fz f', [], (s.remove a.p).2) ∧ (s.remove a.p).2 ≠ 11
    unfold St.remove
    rcases find_fz hi f hf a.p [] with h | ⟨f', r, er, g1, g2, h, h2, h3, _⟩
    · rw [h]; exact .inl rfl
    · rw [h, h2]
      refine .inr ⟨f', g1, g2, ?_⟩
      cases r with
      | none => exact ⟨rfl, h3⟩
      | some g => simp only [free_fz]; exact ⟨by first | rfl | trivial, ne0⟩
  · exact absurd e h7
  · exact absurd e h8
  · show (((s.fz f).read a.p).1, ((s.fz f).read a.p).2.1, ((s.fz f).read a.p).2.2) = _ ∨ ∃ f', _ ∧ _ ∧ (((s.fz f).read a.p).1, ((s.fz f).read a.p).2.1, ((s.fz f).read a.p).2.2) = ((s.read a.p).1.fz f', (s.read a.p).2.1, (s.read a.p).2.2) ∧ (s.read a.p).2.2 ≠ 11
    unfold St.read
    rcases find_fz hi f hf a.p [] with h | ⟨f', r, er, g1, g2, h, h2, h3, _⟩
    · rw [h]; exact .inl rfl
    · rw [h, h2]
      refine .inr ⟨f', g1, g2, ?_⟩
      cases r with
      | none => exact ⟨rfl, h3⟩
      | some g => exact ⟨rfl, ne0⟩

/-! ### Off -/
theorem begin_dead (s : St) (ps : List Str) : s.dead.begin_ ps = (s.dead, 11) ∨ s.dead.begin_ ps = (s.dead, 2) := by
  unfold St.begin_
  split
  · left
    have e : s.dead.burn = s.dead := rfl
    rw [e]
    rfl
  · exact .inr rfl
theorem find_dead (s : St) (p : Str) (o : List Str) : s.dead.find p o = (s.dead, none, 11) ∨ s.dead.find p o = (s.dead, none, 2) := by
  rw [find_eq]
  rcases begin_dead s (o ++ [p]) with h | h <;> rw [h] <;> simp
theorem act_dead (s : St) (a : Ac) (b : Str) (ps : List Int) (h7 : pickOf a.K 10 ≠ 7) (h8 : pickOf a.K 10 ≠ 8) :
    s.dead.act a b ps = (s.dead, [], 11) ∨ s.dead.act a b ps = (s.dead, [], 2) := by
  unfold St.act
  rcases ten (pickOf_lo a.K 10 (by omega)) (pickOf_hi a.K 10 (by omega)) with e | e | e | e | e | e | e | e | e | e <;> rw [e]
  · show ((s.dead.make a.p).1, ([] : Str), (s.dead.make a.p).2) = _ ∨ ((s.dead.make a.p).1, ([] : Str), (s.dead.make a.p).2) = _
    unfold St.make
    rcases begin_dead s [a.p] with h | h <;> rw [h]
    · exact .inl rfl
    · exact .inr rfl
  · show ((s.dead.write a.p b).1, ([] : Str), (s.dead.write a.p b).2) = _ ∨ ((s.dead.write a.p b).1, ([] : Str), (s.dead.write a.p b).2) = _
    unfold St.write
    rcases find_dead s a.p [] with h | h <;> rw [h]
    · exact .inl rfl
    · exact .inr rfl
  · show ((s.dead.append_ a.p b).1, ([] : Str), (s.dead.append_ a.p b).2) = _ ∨ ((s.dead.append_ a.p b).1, ([] : Str), (s.dead.append_ a.p b).2) = _
    unfold St.append_
    rcases find_dead s a.p [] with h | h <;> rw [h]
    · exact .inl rfl
    · exact .inr rfl
  · show ((s.dead.sync a.p).1, ([] : Str), (s.dead.sync a.p).2) = _ ∨ ((s.dead.sync a.p).1, ([] : Str), (s.dead.sync a.p).2) = _
    unfold St.sync
    rcases find_dead s a.p [] with h | h <;> rw [h]
    · exact .inl rfl
    · exact .inr rfl
  · show (s.dead.syncPaths.1, ([] : Str), s.dead.syncPaths.2) = _ ∨ (s.dead.syncPaths.1, ([] : Str), s.dead.syncPaths.2) = _
    unfold St.syncPaths
    rcases begin_dead s [] with h | h <;> rw [h]
    · exact .inl rfl
    · exact .inr rfl
  · show ((s.dead.rename a.p a.q).1, ([] : Str), (s.dead.rename a.p a.q).2) = _ ∨ ((s.dead.rename a.p a.q).1, ([] : Str), (s.dead.rename a.p a.q).2) = _
    unfold St.rename
    rcases find_dead s a.p [a.q] with h | h <;> rw [h]
    · exact .inl rfl
    · exact .inr rfl
  · show ((s.dead.remove a.p).1, ([] : Str), (s.dead.remove a.p).2) = _ ∨ ((s.dead.remove a.p).1, ([] : Str), (s.dead.remove a.p).2) = _
    unfold St.remove
    rcases find_dead s a.p [] with h | h <;> rw [h]
    · exact .inl rfl
    · exact .inr rfl
  · exact absurd e h7
  · exact absurd e h8
  · show ((s.dead.read a.p).1, (s.dead.read a.p).2.1, (s.dead.read a.p).2.2) = _ ∨ ((s.dead.read a.p).1, (s.dead.read a.p).2.1, (s.dead.read a.p).2.2) = _
    unfold St.read
    rcases find_dead s a.p [] with h | h <;> rw [h]
    · exact .inl rfl
    · exact .inr rfl
end Go.Proofs.Ytodnckflobefpaa

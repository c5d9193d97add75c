/- Package wal, as functions of a tree's state: many appends; a log that is opened again. No function of the program is named here. -/
import Derived.Test.YtiikjdjpodmpcaaGreatWlOne
namespace Go.Proofs.YtiikjdjpodmpcaaGreat
open Go.Maps
set_option linter.unusedVariables false

/-! ### Many appends -/
def runA (L : Lg) (s : St) (rs : List Str) : Lg × St := rs.foldl (fun q r => q.1.append q.2 r) (L, s)
theorem runA_nil (L : Lg) (s : St) : runA L s [] = (L, s) := rfl
theorem runA_take (L : Lg) (s : St) (rs : List Str) (i : Nat) (r : Str) (h : rs[i]? = some r) : runA L s (rs.take (i + 1)) = (runA L s (rs.take i)).1.append (runA L s (rs.take i)).2 r := by
  unfold runA
  rw [List.take_add_one, h, List.foldl_append]
  rfl
def apS (p : Str) (r : Str) : Stp := fun s => s.append_ p (frame r)
theorem lappend_eq (L : Lg) (s : St) (r : Str) : L.append s r = (if (doS [apS L.path r] s L.e).2 = 0 then { L with size := L.size + (frame r).length, count := L.count + 1, e := (doS [apS L.path r] s L.e).2 } else { L with e := (doS [apS L.path r] s L.e).2 }, (doS [apS L.path r] s L.e).1) := by
  have e : [apS L.path r] = [fun s : St => s.append_ L.path (frame r)] := rfl
  unfold Lg.append
  rw [e]
  generalize doS [fun s : St => s.append_ L.path (frame r)] s L.e = q
  obtain ⟨s', e⟩ := q
  simp only
  split <;> rfl
/-- What is kept of a log that is appended to: its path; and bounds. -/
structure Grow (L L' : Lg) (rs : List Str) : Prop where
  path : L'.path = L.path
  s0 : L.size ≤ L'.size
  s1 : L'.size ≤ L.size + (fra rs).length
  c0 : L.count ≤ L'.count
  c1 : L'.count ≤ L.count + rs.length
theorem runA_grow (L : Lg) (s : St) (rs : List Str) : Grow L (runA L s rs).1 rs ∧ (runA L s rs).1.e = (doS (rs.map (apS L.path)) s L.e).2 ∧ (runA L s rs).2 = (doS (rs.map (apS L.path)) s L.e).1 := by
  induction rs generalizing L s with
  | nil => exact ⟨⟨rfl, Int.le_refl _, by simp [runA, fra], Int.le_refl _, by simp [runA]⟩, rfl, rfl⟩
  | cons r rs ih =>
    have h := lappend_eq L s r
    obtain ⟨g, h1, h2⟩ := ih (L.append s r).1 (L.append s r).2
    have e1 : runA L s (r :: rs) = runA (L.append s r).1 (L.append s r).2 rs := rfl
    have hp : (L.append s r).1.path = L.path := append_path L s r
    have e2 : doS ((r :: rs).map (apS L.path)) s L.e = doS (rs.map (apS L.path)) (doS [apS L.path r] s L.e).1 (doS [apS L.path r] s L.e).2 := by
      rw [List.map_cons, ← doS_append]
      rfl
    have e3 : (L.append s r).1.e = (doS [apS L.path r] s L.e).2 := by
      rw [h]
      simp only
      split <;> rfl
    have e4 : (L.append s r).2 = (doS [apS L.path r] s L.e).1 := by rw [h]
    rw [hp, e3, e4] at h1 h2
    have hb : L.size ≤ (L.append s r).1.size ∧ (L.append s r).1.size ≤ L.size + (frame r).length ∧ L.count ≤ (L.append s r).1.count ∧ (L.append s r).1.count ≤ L.count + 1 := by
      rw [h]
      simp only
      split <;> simp only <;> omega
    rw [e1, e2]
    refine ⟨⟨g.path.trans hp, by have := g.s0; omega, ?_, by have := g.c0; omega, ?_⟩, ?_, ?_⟩
    · have := g.s1
      rw [fra_cons, List.length_append]
      omega
    · have := g.c1
      rw [List.length_cons]
      omega
    · rw [← h1, e4]
    · rw [← h2, e4]
theorem one_run {p : Str} (hp : okP p = true) : ∀ (rs : List Str) (L : Lg) (s : St) (f : Nat) (X Y : Str), L.path = p → L.e = 0 → One s p f X Y → (X.length : Int) + (fra rs).length ≤ s.room →
    (runA L s rs).1 = ⟨p, L.size + (fra rs).length, L.count + rs.length, 0⟩ ∧ One (runA L s rs).2 p f (X ++ fra rs) Y ∧ (runA L s rs).2.room = s.room
  | [], L, s, f, X, Y, h1, h2, h3, h4 => by
    refine ⟨?_, by rw [fra_nil, List.append_nil]; exact h3, rfl⟩
    obtain ⟨a, b, c, d⟩ := L
    simp only at h1 h2
    subst h1 h2
    simp [runA, fra]
  | r :: rs, L, s, f, X, Y, h1, h2, h3, h4 => by
    rw [fra_cons, List.length_append] at h4
    obtain ⟨a1, a2, a3⟩ := h3.append hp (frame r) (by omega)
    have h := lappend_eq L s r
    have hd : doS [apS L.path r] s L.e = ((s.append_ p (frame r)).1, 0) := by
      rw [doS_cons, if_pos h2, doS_nil]
      show ((s.append_ L.path (frame r)).1, (s.append_ L.path (frame r)).2) = _
      rw [h1, a1]
    rw [hd] at h
    simp only [↓reduceIte] at h
    obtain ⟨b1, b2, b3⟩ := one_run hp rs (L.append s r).1 (L.append s r).2 f (X ++ frame r) Y (by rw [h]; exact h1) (by rw [h]) (by rw [h]; exact a2) (by rw [h, List.length_append, a3]; push_cast; omega)
    have e1 : runA L s (r :: rs) = runA (L.append s r).1 (L.append s r).2 rs := rfl
    rw [e1, fra_cons]
    refine ⟨?_, ?_, ?_⟩
    · rw [b1, h]
      simp only [List.length_append, List.length_cons]
      congr 1
      · push_cast; omega
      · push_cast; omega
    · rw [← List.append_assoc]; exact b2
    · rw [b3, h]; exact a3
end Go.Proofs.YtiikjdjpodmpcaaGreat

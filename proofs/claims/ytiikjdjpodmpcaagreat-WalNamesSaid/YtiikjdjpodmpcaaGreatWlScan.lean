/- Package wal, as functions of lists: frames one after the other, and what Scan reads of bytes. No function of the program is named here. -/
import Derived.Test.YtiikjdjpodmpcaaGreatWiBackPure
import Derived.Test.YtiikjdjpodmpcaaGreatAll1
namespace Go.Proofs.YtiikjdjpodmpcaaGreat
set_option linter.unusedVariables false

theorem unfr_frame (p r : Str) (hp : p.length ≤ 1048576) : unfr (frame p ++ r) = (p, 8 + p.length, 0) := by
  have hl := frame_length p
  have hb := body_length p
  have e1 : frame p ++ r = w4 p.length ++ (p ++ (w4 (adl (body p)) ++ r)) := by simp [frame, body]
  have e2 : frame p ++ r = body p ++ (w4 (adl (body p)) ++ r) := by simp [frame]
  have h4 : (frame p ++ r).take 4 = w4 p.length := by rw [e1]; exact List.take_left' (w4_length _)
  have hs : sizeOfFrame (frame p ++ r) = p.length := by unfold sizeOfFrame; rw [h4]; exact be_w4 _ (by omega)
  have ht : (frame p ++ r).take (4 + p.length) = body p := by rw [e2]; exact List.take_left' (by rw [hb])
  have ht2 : (frame p ++ r).take (4 + p.length + 4) = frame p := List.take_left' (by rw [hl]; omega)
  have htold : toldSum (frame p ++ r) = adl (body p) := by
    unfold toldSum
    rw [hs, ht2]
    have : (frame p).drop (4 + p.length) = w4 (adl (body p)) := by unfold frame; exact List.drop_left' (by rw [hb])
    rw [this]
    exact be_w4 _ (chk_lt _)
  have hlen : (frame p ++ r).length = 8 + p.length + r.length := by rw [List.length_append, hl]
  unfold unfr
  rw [hs, if_neg (by omega), if_neg (by omega), if_neg (by omega), ht, if_pos htold.symm]
  have : (body p).drop 4 = p := by unfold body; exact List.drop_left' (w4_length _)
  rw [this]
  congr 2
  omega
theorem unfr_part (p : Str) (hp : p.length ≤ 1048576) (n : Nat) (hn : n < 8 + p.length) : unfr ((frame p).take n) = ([], 0, 5) := by
  have hl := frame_length p
  have hlen : ((frame p).take n).length = n := by rw [List.length_take, hl]; omega
  unfold unfr
  rw [hlen]
  by_cases h4 : n < 4
  · rw [if_pos h4]
  rw [if_neg h4]
  have e1 : frame p = w4 p.length ++ (p ++ w4 (adl (body p))) := by simp [frame, body]
  have ht : ((frame p).take n).take 4 = w4 p.length := by
    rw [List.take_take, show min 4 n = 4 by omega, e1]
    exact List.take_left' (w4_length _)
  have hs : sizeOfFrame ((frame p).take n) = p.length := by unfold sizeOfFrame; rw [ht]; exact be_w4 _ (by omega)
  rw [hs, if_neg (by omega), if_pos (by omega)]
theorem unfr_e (l : Str) : (unfr l).2.2 = 0 ∨ (unfr l).2.2 = 4 ∨ (unfr l).2.2 = 5 := by
  unfold unfr
  repeat' split
  all_goals simp
theorem unfr_n (l : Str) (h : (unfr l).2.2 = 0) : 8 ≤ (unfr l).2.1 ∧ (unfr l).2.1 ≤ l.length := by
  unfold unfr at *
  repeat' split
  all_goals simp_all
  all_goals omega

/-! ### Scan -/
def scanF : Nat → Str → List Str × Nat × Nat
  | 0, _ => ([], 0, 0)
  | f + 1, l =>
    if (unfr l).2.2 = 0 then ((unfr l).1 :: (scanF f (l.drop (unfr l).2.1)).1, (unfr l).2.1 + (scanF f (l.drop (unfr l).2.1)).2.1, (scanF f (l.drop (unfr l).2.1)).2.2)
    else ([], 0, if (unfr l).2.2 = 5 then 0 else (unfr l).2.2)
/-- The records of all complete frames, how many bytes these have, the error. -/
def scan (l : Str) : List Str × Nat × Nat := scanF (l.length + 1) l
theorem scanF_eq : ∀ (f g : Nat) (l : Str), l.length < f → l.length < g → scanF f l = scanF g l
  | 0, _, _, h, _ => absurd h (by omega)
  | _ + 1, 0, _, _, h => absurd h (by omega)
  | f + 1, g + 1, l, h1, h2 => by
    unfold scanF
    by_cases h : (unfr l).2.2 = 0
    · have hn := unfr_n l h
      rw [if_pos h, if_pos h, scanF_eq f g (l.drop (unfr l).2.1) (by rw [List.length_drop]; omega) (by rw [List.length_drop]; omega)]
    · rw [if_neg h, if_neg h]
theorem scan_eq (l : Str) : scan l = if (unfr l).2.2 = 0 then ((unfr l).1 :: (scan (l.drop (unfr l).2.1)).1, (unfr l).2.1 + (scan (l.drop (unfr l).2.1)).2.1, (scan (l.drop (unfr l).2.1)).2.2) else ([], 0, if (unfr l).2.2 = 5 then 0 else (unfr l).2.2) := by
  by_cases h : (unfr l).2.2 = 0
  · have hn := unfr_n l h
    have e : scanF l.length (l.drop (unfr l).2.1) = scan (l.drop (unfr l).2.1) := scanF_eq _ _ _ (by rw [List.length_drop]; omega) (by omega)
    rw [if_pos h]
    show scanF (l.length + 1) l = _
    unfold scanF
    rw [if_pos h, e]
  · rw [if_neg h]
    show scanF (l.length + 1) l = _
    unfold scanF
    rw [if_neg h]
theorem scan_le : ∀ (n : Nat) (l : Str), l.length = n → (scan l).2.1 ≤ l.length ∧ 8 * (scan l).1.length ≤ (scan l).2.1 := by
  intro n
  induction n using Nat.strongRecOn with
  | ind n ih =>
    intro l hl
    rw [scan_eq]
    by_cases h : (unfr l).2.2 = 0
    · have hn := unfr_n l h
      rw [if_pos h]
      have := ih (l.drop (unfr l).2.1).length (by rw [List.length_drop]; omega) _ rfl
      simp only [List.length_cons, List.length_drop] at this ⊢
      omega
    · rw [if_neg h]
      simp
theorem scan_ends : ∀ (n : Nat) (l : Str), l.length = n → (scan l).2.2 = 0 ∨ (scan l).2.2 = 4 := by
  intro n
  induction n using Nat.strongRecOn with
  | ind n ih =>
    intro l hl
    rw [scan_eq]
    by_cases h : (unfr l).2.2 = 0
    · have hn := unfr_n l h
      rw [if_pos h]
      exact ih (l.drop (unfr l).2.1).length (by rw [List.length_drop]; omega) _ rfl
    · rw [if_neg h]
      rcases unfr_e l with e | e | e
      · exact absurd e h
      · right; simp [e]
      · left; simp [e]
theorem scan_nil : scan [] = ([], 0, 0) := by
  rw [scan_eq]
  rfl

/-! ### Frames one after the other -/
def fra (rs : List Str) : Str := rs.flatMap frame
def okR (rs : List Str) : Prop := ∀ p ∈ rs, p.length ≤ 1048576
theorem fra_nil : fra [] = [] := rfl
theorem fra_cons (p : Str) (rs : List Str) : fra (p :: rs) = frame p ++ fra rs := by simp [fra]
theorem fra_append (rs qs : List Str) : fra (rs ++ qs) = fra rs ++ fra qs := by simp [fra]
theorem fra_one (p : Str) : fra [p] = frame p := by simp [fra]
theorem scan_fra (t : Str) : ∀ rs : List Str, okR rs → scan (fra rs ++ t) = (rs ++ (scan t).1, (fra rs).length + (scan t).2.1, (scan t).2.2)
  | [], _ => by simp [fra]
  | p :: rs, h => by
    have hp := h p List.mem_cons_self
    have ih := scan_fra t rs fun q hq => h q (List.mem_cons_of_mem _ hq)
    rw [fra_cons, List.append_assoc, scan_eq, unfr_frame p _ hp]
    simp only [↓reduceIte]
    rw [List.drop_left' (by rw [frame_length]), ih]
    simp only [List.cons_append, List.length_append, frame_length]
    congr 2
    omega
theorem scan_all (rs : List Str) (h : okR rs) : scan (fra rs) = (rs, (fra rs).length, 0) := by
  have := scan_fra [] rs h
  rw [scan_nil] at this
  simpa using this
theorem scan_part (p : Str) (hp : p.length ≤ 1048576) (n : Nat) (hn : n < 8 + p.length) : scan ((frame p).take n) = ([], 0, 0) := by
  rw [scan_eq, unfr_part p hp n hn]
  simp
theorem take_fra : ∀ (rs : List Str) (n : Nat), okR rs → ∃ m t, m ≤ rs.length ∧ (fra rs).take n = fra (rs.take m) ++ t ∧ scan t = ([], 0, 0)
  | [], n, _ => ⟨0, [], Nat.le_refl _, by simp [fra], scan_nil⟩
  | p :: rs, n, h => by
    have hp := h p List.mem_cons_self
    have hl := frame_length p
    by_cases hn : n < 8 + p.length
    · refine ⟨0, (frame p).take n, Nat.zero_le _, ?_, scan_part p hp n hn⟩
      rw [fra_cons, List.take_append_of_le_length (by omega)]
      simp [fra]
    · obtain ⟨m, t, h1, h2, h3⟩ := take_fra rs (n - (8 + p.length)) fun q hq => h q (List.mem_cons_of_mem _ hq)
      refine ⟨m + 1, t, by simp; omega, ?_, h3⟩
      rw [fra_cons, List.take_append, List.take_of_length_le (by omega), hl, h2, List.take_succ_cons, fra_cons, List.append_assoc]
/-- What is read of all frames of some records, and a prefix of those of others. -/
theorem scan_cut (xs ys : List Str) (n : Nat) (ha : okR xs) (hb : okR ys) : ∃ m, m ≤ ys.length ∧ ∃ t, fra xs ++ (fra ys).take n = fra (xs ++ ys.take m) ++ t ∧ scan (fra xs ++ (fra ys).take n) = (xs ++ ys.take m, (fra (xs ++ ys.take m)).length, 0) := by
  obtain ⟨m, t, h1, h2, h3⟩ := take_fra ys n hb
  have e : fra xs ++ (fra ys).take n = fra (xs ++ ys.take m) ++ t := by rw [h2, fra_append, List.append_assoc]
  refine ⟨m, h1, t, e, ?_⟩
  rw [e, scan_fra t _ (fun q hq => by
    rcases List.mem_append.1 hq with h | h
    · exact ha q h
    · exact hb q (List.mem_of_mem_take h)), h3]
  simp
theorem fra_length : ∀ rs : List Str, (fra rs).length = 8 * rs.length + (rs.map List.length).sum
  | [] => rfl
  | p :: rs => by rw [fra_cons, List.length_append, frame_length, fra_length rs]; simp; omega
end Go.Proofs.YtiikjdjpodmpcaaGreat

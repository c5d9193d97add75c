/- Names of files, as functions of lists of bytes. No function of the program is named here. -/
import Derived.Lib.ItoaNum
import Derived.Lib.Bytealg
namespace Go.Proofs.YtiikjdjpodmpcaaGreat
open Go.Lib (decDigits)
set_option linter.unusedVariables false

/-! ### Cutting at the first and at the last of a byte -/
def cutF (c : UInt8) : List UInt8 → Option (List UInt8 × List UInt8)
  | [] => none
  | x :: l => if x = c then some ([], l) else (cutF c l).map fun p => (x :: p.1, p.2)
def cutL (c : UInt8) : List UInt8 → Option (List UInt8 × List UInt8)
  | [] => none
  | x :: l => match cutL c l with
    | some p => some (x :: p.1, p.2)
    | none => if x = c then some ([], l) else none
theorem cutF_none {c : UInt8} : ∀ {l : List UInt8}, cutF c l = none ↔ c ∉ l
  | [] => by simp [cutF]
  | x :: l => by
    have ih := @cutF_none c l
    unfold cutF
    by_cases h : x = c
    · simp [h]
    · simp only [h, ↓reduceIte, Option.map_eq_none_iff, ih, List.mem_cons, not_or]
      exact ⟨fun h2 => ⟨fun e => h e.symm, h2⟩, fun h2 => h2.2⟩
theorem cutL_none {c : UInt8} : ∀ {l : List UInt8}, cutL c l = none ↔ c ∉ l
  | [] => by simp [cutL]
  | x :: l => by
    have ih := @cutL_none c l
    unfold cutL
    cases e : cutL c l with
    | some p =>
      rw [e] at ih
      have : c ∈ l := Classical.byContradiction fun h => by simpa using ih.2 h
      simp [this]
    | none =>
      have hn := ih.1 e
      by_cases h : x = c
      · simp [h]
      · simp only [h, ↓reduceIte, List.mem_cons, not_or, true_iff]
        exact ⟨fun e => h e.symm, hn⟩
theorem cutF_some {c : UInt8} : ∀ {l a b : List UInt8}, cutF c l = some (a, b) ↔ l = a ++ c :: b ∧ c ∉ a
  | [], a, b => by simp [cutF]
  | x :: l, a, b => by
    unfold cutF
    by_cases h : x = c
    · subst h
      simp only [↓reduceIte, Option.some.injEq, Prod.mk.injEq]
      constructor
      · rintro ⟨rfl, rfl⟩
        simp
      · rintro ⟨h1, h2⟩
        cases a with
        | nil => simpa using h1
        | cons y a =>
          simp only [List.cons_append, List.cons.injEq] at h1
          exact absurd (h1.1 ▸ List.mem_cons_self) h2
    · simp only [h, ↓reduceIte, Option.map_eq_some_iff, Prod.mk.injEq]
      constructor
      · rintro ⟨⟨a', b'⟩, h1, rfl, rfl⟩
        obtain ⟨e, hn⟩ := (@cutF_some c l a' b').1 h1
        simp only [e, List.cons_append, List.mem_cons, not_or, true_and]
        exact ⟨fun e => h e.symm, hn⟩
      · rintro ⟨h1, h2⟩
        cases a with
        | nil =>
          simp only [List.nil_append, List.cons.injEq] at h1
          exact absurd h1.1 h
        | cons y a =>
          simp only [List.cons_append, List.cons.injEq] at h1
          simp only [List.mem_cons, not_or] at h2
          exact ⟨(a, b), (@cutF_some c l a b).2 ⟨h1.2, h2.2⟩, by rw [h1.1], rfl⟩
theorem cutL_some {c : UInt8} : ∀ {l a b : List UInt8}, cutL c l = some (a, b) ↔ l = a ++ c :: b ∧ c ∉ b
  | [], a, b => by simp [cutL]
  | x :: l, a, b => by
    unfold cutL
    cases e : cutL c l with
    | some p =>
      obtain ⟨a', b'⟩ := p
      obtain ⟨h1, h2⟩ := (@cutL_some c l a' b').1 e
      simp only [Option.some.injEq, Prod.mk.injEq]
      constructor
      · rintro ⟨rfl, rfl⟩
        exact ⟨by rw [h1]; rfl, h2⟩
      · rintro ⟨h3, h4⟩
        cases a with
        | nil =>
          simp only [List.nil_append, List.cons.injEq] at h3
          exact absurd (by rw [← h3.2, h1]; simp) h4
        | cons y a =>
          simp only [List.cons_append, List.cons.injEq] at h3
          have := (@cutL_some c l a b).2 ⟨h3.2, h4⟩
          rw [e] at this
          injection this with this
          injection this with e1 e2
          exact ⟨by rw [h3.1, e1], e2⟩
    | none =>
      have hn := cutL_none.1 e
      by_cases h : x = c
      · simp only [h, ↓reduceIte, Option.some.injEq, Prod.mk.injEq]
        constructor
        · rintro ⟨rfl, rfl⟩
          exact ⟨rfl, hn⟩
        · rintro ⟨h3, h4⟩
          cases a with
          | nil => simpa using h3
          | cons y a =>
            simp only [List.cons_append, List.cons.injEq] at h3
            exact absurd (by rw [h3.2]; simp) hn
      · rw [if_neg h]
        refine ⟨fun h3 => absurd h3 (by simp), ?_⟩
        rintro ⟨h3, _⟩
        cases a with
        | nil =>
          simp only [List.nil_append, List.cons.injEq] at h3
          exact absurd h3.1 h
        | cons y a =>
          simp only [List.cons_append, List.cons.injEq] at h3
          exact absurd (by rw [h3.2]; simp) hn

/-! ### Names and paths -/
def names : List UInt8 → List (List UInt8)
  | [] => [[]]
  | x :: l => if x = 47 then [] :: names l else match names l with
    | [] => [[x]]
    | a :: r => (x :: a) :: r
theorem names_ne : ∀ l : List UInt8, names l ≠ []
  | [] => by simp [names]
  | x :: l => by
    unfold names
    split
    · simp
    · split <;> simp
theorem names_none : ∀ {l : List UInt8}, (47 : UInt8) ∉ l → names l = [l]
  | [], _ => rfl
  | x :: l, h => by
    simp only [List.mem_cons, not_or] at h
    have h1 : x ≠ 47 := fun e => h.1 e.symm
    simp [names, h1, names_none h.2]
theorem names_append (b : List UInt8) : ∀ f : List UInt8, names (f ++ 47 :: b) = names f ++ names b
  | [] => by simp [names]
  | x :: f => by
    have ih := names_append b f
    rw [List.cons_append]
    by_cases h : x = 47
    · rw [names, names, if_pos h, if_pos h, ih]
      rfl
    · rw [names, names, if_neg h, if_neg h, ih]
      cases e : names f with
      | nil => exact absurd e (names_ne f)
      | cons a r => rfl

def okCh (c : UInt8) : Bool := (decide (97 ≤ c) && decide (c ≤ 122)) || (decide (48 ≤ c) && decide (c ≤ 57)) || c == 45 || c == 95 || c == 46
def isName (l : List UInt8) : Bool := decide (1 ≤ l.length) && decide (l.length ≤ 24) && (l.head? != some 46) && l.all okCh
def isPath (l : List UInt8) : Bool := decide (l.length ≤ 64) && decide ((names l).length ≤ 4) && (names l).all isName
def chk (l : List UInt8) : Int := if 64 < l.length then 3 else if isPath l then 0 else 2
def folder (l : List UInt8) : List UInt8 := match cutL 47 l with | some p => p.1 | none => []
def base (l : List UInt8) : List UInt8 := match cutL 47 l with | some p => p.2 | none => l
def stem (l : List UInt8) : List UInt8 := match cutL 46 l with | some p => p.1 | none => l
def ending (l : List UInt8) : List UInt8 := match cutL 46 l with | some p => 46 :: p.2 | none => []
def joined (f b : List UInt8) : List UInt8 := if f = [] then b else f ++ 47 :: b
def mark (d n : Nat) : List UInt8 := 46 :: 99 :: (decDigits d ++ 45 :: decDigits n)
def copyS (s : List UInt8) (d n : Nat) : List UInt8 := joined (folder s) (stem (base s) ++ mark d n ++ ending (base s))
def inRange (d n : Int) : Prop := 1 ≤ d ∧ d ≤ 99 ∧ 0 ≤ n ∧ n ≤ 999
instance (d n : Int) : Decidable (inRange d n) := by unfold inRange; infer_instance
def copyR (s : List UInt8) (d n : Int) : List UInt8 × Int :=
  if chk s ≠ 0 then ([], chk s) else if ¬ inRange d n then ([], 2) else if chk (copyS s d.toNat n.toNat) ≠ 0 then ([], 3) else (copyS s d.toNat n.toNat, 0)
def isCopy (s p : List UInt8) (d n : Int) : Prop := copyR p d n = (s, 0)

theorem chk_zero {l : List UInt8} : chk l = 0 ↔ isPath l = true := by
  unfold chk
  constructor
  · intro h
    split at h
    · simp at h
    · split at h
      · assumption
      · simp at h
  · intro h
    have h1 : ¬ 64 < l.length := by
      simp only [isPath, Bool.and_eq_true, decide_eq_true_eq] at h
      omega
    rw [if_neg h1, if_pos h]
theorem chk_cases (l : List UInt8) : chk l = 0 ∨ chk l = 2 ∨ chk l = 3 := by
  unfold chk
  split
  · simp
  · split <;> simp

theorem okCh_slash : okCh 47 = false := by decide
theorem name_slash {l : List UInt8} (h : isName l = true) : (47 : UInt8) ∉ l := by
  intro hm
  simp only [isName, Bool.and_eq_true, List.all_eq_true] at h
  have := h.2 _ hm
  rw [okCh_slash] at this
  simp at this

theorem path_base_only {b : List UInt8} (h : (47 : UInt8) ∉ b) : isPath b = true ↔ (b.length ≤ 64 ∧ isName b = true) := by
  simp [isPath, names_none h]
theorem path_folder_base {f b : List UInt8} (h : (47 : UInt8) ∉ b) : isPath (f ++ 47 :: b) = true ↔ (f.length + 1 + b.length ≤ 64 ∧ (names f).length ≤ 3 ∧ (names f).all isName = true ∧ isName b = true) := by
  simp only [isPath, names_append, names_none h, Bool.and_eq_true, decide_eq_true_eq, List.length_append, List.length_cons, List.length_nil, List.all_append, List.all_cons, List.all_nil, Bool.and_true]
  constructor
  · rintro ⟨⟨h1, h2⟩, h3, h4⟩
    exact ⟨by omega, by omega, h3, h4⟩
  · rintro ⟨h1, h2, h3, h4⟩
    exact ⟨⟨by omega, by omega⟩, h3, h4⟩
theorem name_nil : isName [] = false := by decide
theorem names_nil_all : (names []).all isName = false := by decide

theorem slash_split (s : List UInt8) : ((47 : UInt8) ∉ s ∧ folder s = [] ∧ base s = s) ∨ (∃ f b, s = f ++ 47 :: b ∧ (47 : UInt8) ∉ b ∧ folder s = f ∧ base s = b) := by
  unfold folder base
  cases e : cutL 47 s with
  | none => exact .inl ⟨cutL_none.1 e, rfl, rfl⟩
  | some p => exact .inr ⟨p.1, p.2, (cutL_some.1 e).1, (cutL_some.1 e).2, rfl, rfl⟩
theorem base_slash (s : List UInt8) : (47 : UInt8) ∉ base s := by
  rcases slash_split s with ⟨h, _, e⟩ | ⟨f, b, _, h, _, e⟩
  · rwa [e]
  · rwa [e]
theorem point_split (s : List UInt8) : ((46 : UInt8) ∉ s ∧ stem s = s ∧ ending s = []) ∨ (∃ a b, s = a ++ 46 :: b ∧ (46 : UInt8) ∉ b ∧ stem s = a ∧ ending s = 46 :: b) := by
  unfold stem ending
  cases e : cutL 46 s with
  | none => exact .inl ⟨cutL_none.1 e, rfl, rfl⟩
  | some p => exact .inr ⟨p.1, p.2, (cutL_some.1 e).1, (cutL_some.1 e).2, rfl, rfl⟩
theorem stem_ending (s : List UInt8) : stem s ++ ending s = s := by
  rcases point_split s with ⟨_, e1, e2⟩ | ⟨a, b, e, _, e1, e2⟩
  · rw [e1, e2, List.append_nil]
  · rw [e1, e2, e]
theorem stem_none {s : List UInt8} (h : (46 : UInt8) ∉ s) : stem s = s ∧ ending s = [] := by
  unfold stem ending
  rw [cutL_none.2 h]
  exact ⟨rfl, rfl⟩
theorem stem_some {a b : List UInt8} (h : (46 : UInt8) ∉ b) : stem (a ++ 46 :: b) = a ∧ ending (a ++ 46 :: b) = 46 :: b := by
  unfold stem ending
  rw [cutL_some.2 ⟨rfl, h⟩]
  exact ⟨rfl, rfl⟩
theorem folder_joined {f b : List UInt8} (h : (47 : UInt8) ∉ b) : folder (joined f b) = f ∧ base (joined f b) = b := by
  unfold folder base joined
  by_cases e : f = []
  · rw [if_pos e, cutL_none.2 h, e]
    exact ⟨rfl, rfl⟩
  · rw [if_neg e, cutL_some.2 ⟨rfl, h⟩]
    exact ⟨rfl, rfl⟩

/-- Of a path: what it consists of. -/
structure Parts (s f b : List UInt8) : Prop where
  whole : s = joined f b
  folder_ : folder s = f
  base_ : base s = b
  name : isName b = true
  slash : (47 : UInt8) ∉ b
  fpath : f = [] ∨ isPath f = true
  len : s.length ≤ 64
  again : ∀ b', isName b' = true → (joined f b').length ≤ 64 → isPath (joined f b') = true
theorem path_parts {s : List UInt8} (h : isPath s = true) : Parts s (folder s) (base s) := by
  have hl : s.length ≤ 64 := by
    have h' := h
    simp only [isPath, Bool.and_eq_true, decide_eq_true_eq] at h'
    exact h'.1.1
  rcases slash_split s with ⟨h1, e1, e2⟩ | ⟨f, b, e, h1, e1, e2⟩
  · rw [e1, e2]
    refine ⟨by simp [joined], e1, e2, ((path_base_only h1).1 h).2, h1, .inl rfl, hl, fun b' hb' hl' => ?_⟩
    simp only [joined, ↓reduceIte] at hl' ⊢
    exact (path_base_only (name_slash hb')).2 ⟨hl', hb'⟩
  · subst e
    obtain ⟨g1, g2, g3, g4⟩ := (path_folder_base h1).1 h
    have hf : f ≠ [] := by
      rintro rfl
      rw [names_nil_all] at g3
      simp at g3
    rw [e1, e2]
    refine ⟨by simp [joined, hf], e1, e2, g4, h1, .inr ?_, hl, fun b' hb' hl' => ?_⟩
    · simp only [isPath, Bool.and_eq_true, decide_eq_true_eq]
      exact ⟨⟨by omega, by omega⟩, g3⟩
    · simp only [joined, hf, ↓reduceIte] at hl' ⊢
      simp only [List.length_append, List.length_cons] at hl'
      exact (path_folder_base (name_slash hb')).2 ⟨by omega, g2, g3, hb'⟩
theorem path_of_joined {f b : List UInt8} (h : isPath (joined f b) = true) (hb : (47 : UInt8) ∉ b) : isName b = true := by
  have := path_parts h
  have e := this.base_
  rw [(folder_joined hb).2] at e
  have hn := this.name
  rwa [(folder_joined hb).2] at hn

/-! ### Numerals -/
def dval (l : List UInt8) : Nat := l.foldl (fun n c => n * 10 + (c.toNat - 48)) 0
theorem dval_append (l : List UInt8) (c : UInt8) : dval (l ++ [c]) = dval l * 10 + (c.toNat - 48) := by simp [dval]
theorem dval_dec (n : Nat) : dval (decDigits n) = n := by
  induction n using Nat.strongRecOn with
  | _ n ih =>
    rw [decDigits]
    split
    · rename_i h
      simp only [dval, List.foldl_cons, List.foldl_nil]
      rw [UInt8.toNat_ofNat']
      omega
    · rename_i h
      rw [dval_append, ih (n / 10) (by omega), UInt8.toNat_ofNat']
      omega
theorem dec_inj {m n : Nat} (h : decDigits m = decDigits n) : m = n := by rw [← dval_dec m, h, dval_dec]
theorem dec_digits (n : Nat) : ∀ c ∈ decDigits n, 48 ≤ c.toNat ∧ c.toNat ≤ 57 := by
  induction n using Nat.strongRecOn with
  | _ n ih =>
    rw [decDigits]
    split
    · rename_i h
      intro c hc
      simp only [List.mem_singleton] at hc
      rw [hc, UInt8.toNat_ofNat']
      omega
    · rename_i h
      intro c hc
      simp only [List.mem_append, List.mem_singleton] at hc
      rcases hc with hc | hc
      · exact ih (n / 10) (by omega) c hc
      · rw [hc, UInt8.toNat_ofNat']
        omega
theorem dec_ne_nil (n : Nat) : decDigits n ≠ [] := by
  rw [decDigits]
  split <;> simp
theorem dec_no {n : Nat} {c : UInt8} (h : c.toNat < 48 ∨ 57 < c.toNat) : c ∉ decDigits n := by
  intro hm
  have := dec_digits n c hm
  omega
theorem mark_no_slash (d n : Nat) : (47 : UInt8) ∉ mark d n := by
  unfold mark
  simp only [List.mem_cons, List.mem_append, not_or]
  refine ⟨by decide, by decide, dec_no (.inl (by decide)), by decide, dec_no (.inl (by decide))⟩
theorem mark_tail_no_point (d n : Nat) : (46 : UInt8) ∉ (99 :: (decDigits d ++ 45 :: decDigits n) : List UInt8) := by
  simp only [List.mem_cons, List.mem_append, not_or]
  refine ⟨by decide, dec_no (.inl (by decide)), by decide, dec_no (.inl (by decide))⟩
theorem cutF_mark (d n : Nat) : cutF 45 (decDigits d ++ 45 :: decDigits n) = some (decDigits d, decDigits n) := cutF_some.2 ⟨rfl, dec_no (.inl (by decide))⟩
theorem mark_inj {d n d' n' : Nat} (h : mark d n = mark d' n') : d = d' ∧ n = n' := by
  have h1 := cutF_mark d n
  simp only [mark, List.cons.injEq, true_and] at h
  rw [h, cutF_mark d' n'] at h1
  injection h1 with h1
  injection h1 with e1 e2
  exact ⟨(dec_inj e1).symm, (dec_inj e2).symm⟩
theorem okCh_digit (c : UInt8) (h : 48 ≤ c.toNat ∧ c.toNat ≤ 57) : okCh c = true := by
  have h1 : (48 : UInt8) ≤ c := by rw [UInt8.le_iff_toNat_le]; exact h.1
  have h2 : c ≤ (57 : UInt8) := by rw [UInt8.le_iff_toNat_le]; exact h.2
  simp [okCh, h1, h2]

/-! ### Conflict copies -/
theorem ending_no_slash {b : List UInt8} (h : (47 : UInt8) ∉ b) : (47 : UInt8) ∉ stem b ∧ (47 : UInt8) ∉ ending b := by
  have e := stem_ending b
  rw [← e, List.mem_append, not_or] at h
  exact h
theorem copy_base_slash (s : List UInt8) (d n : Nat) : (47 : UInt8) ∉ stem (base s) ++ mark d n ++ ending (base s) := by
  have h := ending_no_slash (base_slash s)
  simp only [List.mem_append, not_or]
  exact ⟨⟨h.1, mark_no_slash d n⟩, h.2⟩
theorem copyS_parts (s : List UInt8) (d n : Nat) : folder (copyS s d n) = folder s ∧ base (copyS s d n) = stem (base s) ++ mark d n ++ ending (base s) := folder_joined (copy_base_slash s d n)

/-- The three parts of the base of a conflict copy, as they are taken apart. -/
def parts3 (b : List UInt8) : List UInt8 × List UInt8 × List UInt8 :=
  if ending (stem b) = [] then (stem b, ending b, []) else (stem (stem b), ending (stem b), ending b)
theorem parts3_whole (b : List UInt8) : (parts3 b).1 ++ (parts3 b).2.1 ++ (parts3 b).2.2 = b := by
  unfold parts3
  split
  · simp [stem_ending]
  · simp [stem_ending]
theorem parts3_copy (b : List UInt8) (d n : Nat) : parts3 (stem b ++ mark d n ++ ending b) = (stem b, mark d n, ending b) := by
  have hm : mark d n = 46 :: (99 :: (decDigits d ++ 45 :: decDigits n)) := rfl
  rcases point_split b with ⟨h, e1, e2⟩ | ⟨a, e, _, h, e1, e2⟩
  · rw [e2, List.append_nil, e1, hm]
    have h1 := stem_some (a := b) (mark_tail_no_point d n)
    unfold parts3
    rw [h1.1, h1.2, (stem_none h).2]
    simp
  · rw [e1, e2]
    have h1 := stem_some (a := a ++ mark d n) h
    unfold parts3
    rw [h1.1, h1.2, hm]
    have h2 := stem_some (a := a) (mark_tail_no_point d n)
    rw [h2.1, h2.2]
    simp
theorem parts3_back {b a m e : List UInt8} {d n : Nat} (h : parts3 b = (a, m, e)) (hm : m = mark d n) : b = a ++ mark d n ++ e ∧ stem (a ++ e) = a ∧ ending (a ++ e) = e := by
  have hw := parts3_whole b
  rw [h, hm] at hw
  refine ⟨hw.symm, ?_⟩
  unfold parts3 at h
  split at h
  · rename_i h0
    injection h with e1 e2
    injection e2 with e2 e3
    subst e3
    rw [List.append_nil]
    have : (46 : UInt8) ∉ a := by
      rcases point_split (stem b) with ⟨h1, _, _⟩ | ⟨_, _, _, _, _, h1⟩
      · rwa [← e1]
      · rw [h0] at h1; simp at h1
    exact stem_none this
  · rename_i h0
    injection h with e1 e2
    injection e2 with e2 e3
    rcases point_split b with ⟨h1, h2, h3⟩ | ⟨x, y, h1, h2, h3, h4⟩
    · have : stem b = b := h2
      rw [this, h3] at h0
      exact absurd rfl h0
    · rw [h4] at e3
      subst e3
      exact stem_some h2

theorem name_parts {b : List UInt8} (h : isName b = true) : 1 ≤ b.length ∧ b.length ≤ 24 ∧ b.head? ≠ some 46 ∧ b.all okCh = true := by
  simp only [isName, Bool.and_eq_true, decide_eq_true_eq, bne_iff_ne] at h
  exact ⟨h.1.1.1, h.1.1.2, h.1.2, h.2⟩
theorem name_of {b : List UInt8} (h : 1 ≤ b.length ∧ b.length ≤ 24 ∧ b.head? ≠ some 46 ∧ b.all okCh = true) : isName b = true := by
  simp only [isName, Bool.and_eq_true, decide_eq_true_eq, bne_iff_ne]
  exact ⟨⟨⟨h.1, h.2.1⟩, h.2.2.1⟩, h.2.2.2⟩
/-- Without its mark the base of a copy is a name. -/
theorem name_unmark {a e : List UInt8} {d n : Nat} (h : isName (a ++ mark d n ++ e) = true) : isName (a ++ e) = true := by
  obtain ⟨h1, h2, h3, h4⟩ := name_parts h
  have ha : a ≠ [] := by
    rintro rfl
    exact h3 rfl
  simp only [List.length_append, List.all_append, Bool.and_eq_true] at h2 h4
  have hpos := List.length_pos_iff.2 ha
  refine name_of ⟨by rw [List.length_append]; omega, by rw [List.length_append]; omega, ?_, by rw [List.all_append, h4.1.1, h4.2]; rfl⟩
  cases a with
  | nil => exact absurd rfl ha
  | cons x a => exact h3

theorem copyR_ok {s : List UInt8} {d n : Int} {c : List UInt8} : copyR s d n = (c, 0) ↔ (isPath s = true ∧ inRange d n ∧ isPath (copyS s d.toNat n.toNat) = true ∧ c = copyS s d.toNat n.toNat) := by
  unfold copyR
  constructor
  · intro h
    split at h
    · rename_i h0
      injection h with _ h
      exact absurd h h0
    · rename_i h0
      split at h
      · injection h with _ h
        simp at h
      · rename_i h1
        split at h
        · injection h with _ h
          simp at h
        · rename_i h2
          injection h with h _
          refine ⟨chk_zero.1 ?_, ?_, chk_zero.1 ?_, h.symm⟩
          · exact Classical.byContradiction h0
          · exact Classical.byContradiction h1
          · exact Classical.byContradiction h2
  · rintro ⟨h1, h2, h3, rfl⟩
    rw [if_neg (by rw [chk_zero.2 h1]; simp), if_neg (by simpa using h2), if_neg (by rw [chk_zero.2 h3]; simp)]

/-- What a path is taken apart to, as the copy of another one. -/
def copiedB (s : List UInt8) : List UInt8 × List UInt8 := (joined (folder s) ((parts3 (base s)).1 ++ (parts3 (base s)).2.2), (parts3 (base s)).2.1)
/-- A conflict copy is taken apart into what it was made of. -/
theorem copied_of_copy {s p : List UInt8} {d n : Int} (h : isCopy s p d n) : isPath s = true ∧ copiedB s = (p, mark d.toNat n.toNat) ∧ inRange d n := by
  obtain ⟨h1, h2, h3, rfl⟩ := copyR_ok.1 h
  refine ⟨h3, ?_, h2⟩
  unfold copiedB
  rw [(copyS_parts p _ _).1, (copyS_parts p _ _).2, parts3_copy]
  simp only [stem_ending]
  rw [← (path_parts h1).whole]
/-- What is taken apart with a mark is the copy of that. -/
theorem copy_of_copied {s m : List UInt8} {d n : Int} (hs : isPath s = true) (hr : inRange d n) (h : (copiedB s).2 = mark d.toNat n.toNat) : isCopy s (copiedB s).1 d n := by
  have P := path_parts hs
  unfold copiedB at h ⊢
  simp only at h ⊢
  obtain ⟨hw, hs1, he1⟩ := parts3_back (b := base s) (a := (parts3 (base s)).1) (m := (parts3 (base s)).2.1) (e := (parts3 (base s)).2.2) rfl h
  generalize (parts3 (base s)).1 = a at *
  generalize (parts3 (base s)).2.2 = e at *
  have hn := P.name
  rw [hw] at hn
  have hn2 := name_unmark hn
  have hlen : (joined (folder s) (a ++ e)).length ≤ 64 := by
    have h1 := P.len
    have h2 := congrArg List.length P.whole
    rw [hw] at h2
    unfold joined at h2 ⊢
    split at h2
    · rename_i h0
      rw [if_pos h0]
      simp only [List.length_append] at h2 ⊢
      omega
    · rename_i h0
      rw [if_neg h0]
      simp only [List.length_append, List.length_cons] at h2 ⊢
      omega
  have hp := P.again _ hn2 hlen
  have hfb := folder_joined (f := folder s) (name_slash hn2)
  have hc : copyS (joined (folder s) (a ++ e)) d.toNat n.toNat = s := by
    unfold copyS
    rw [hfb.1, hfb.2, hs1, he1, ← hw]
    exact P.whole.symm
  exact copyR_ok.2 ⟨hp, hr, by rw [hc]; exact hs, hc.symm⟩
theorem isCopy_unique {s p p' : List UInt8} {d n d' n' : Int} (h : isCopy s p d n) (h' : isCopy s p' d' n') : p = p' ∧ d = d' ∧ n = n' := by
  obtain ⟨_, e, r⟩ := copied_of_copy h
  obtain ⟨_, e', r'⟩ := copied_of_copy h'
  rw [e] at e'
  injection e' with e1 e2
  have := mark_inj e2
  unfold inRange at r r'
  exact ⟨e1, by omega, by omega⟩
end Go.Proofs.YtiikjdjpodmpcaaGreat

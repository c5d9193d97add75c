/- Package table, as functions of lists: the order of keys, sorted pairs, and trees that are arranged by ranks. No function of the program is named here. -/
import GoSem.Op.String
namespace Go.Proofs.Ytekcphpeaoaaaaa
set_option linter.unusedVariables false

abbrev Str := List UInt8
abbrev KV := Str × Str
def lt (a b : Str) : Bool := Op.bytesLess a b
theorem lt_nil (a : Str) : lt a [] = false := by cases a <;> rfl
theorem lt_cons (a b : UInt8) (x y : Str) : lt (a :: x) (b :: y) = (decide (a < b) || (a == b && lt x y)) := rfl
theorem lt_irrefl : ∀ a : Str, lt a a = false
  | [] => rfl
  | c :: a => by rw [lt_cons, lt_irrefl a]; simp [UInt8.lt_irrefl]
theorem lt_trans : ∀ {a b c : Str}, lt a b = true → lt b c = true → lt a c = true
  | a, [], _, h, _ => by rw [lt_nil] at h; cases h
  | a, _ :: _, [], _, h => by rw [lt_nil] at h; cases h
  | [], _ :: _, _ :: _, _, _ => rfl
  | x :: a, y :: b, z :: c, h, k => by
    rw [lt_cons] at *
    simp only [Bool.or_eq_true, decide_eq_true_eq, Bool.and_eq_true, beq_iff_eq] at *
    rcases h with h | ⟨rfl, h⟩
    · rcases k with k | ⟨rfl, k⟩
      · exact .inl (UInt8.lt_trans h k)
      · exact .inl h
    · rcases k with k | ⟨rfl, k⟩
      · exact .inl k
      · exact .inr ⟨rfl, lt_trans h k⟩
theorem lt_conn : ∀ {a b : Str}, lt a b = false → lt b a = false → a = b
  | [], [], _, _ => rfl
  | [], _ :: _, h, _ => by cases h
  | _ :: _, [], _, h => by cases h
  | x :: a, y :: b, h, k => by
    rw [lt_cons] at *
    simp only [Bool.or_eq_false_iff, decide_eq_false_iff_not, Bool.and_eq_false_iff, beq_eq_false_iff_ne] at *
    obtain ⟨h1, h2⟩ := h
    obtain ⟨k1, k2⟩ := k
    have e : x = y := by
      apply UInt8.le_antisymm
      · exact UInt8.not_lt.1 k1
      · exact UInt8.not_lt.1 h1
    subst e
    have h3 : lt a b = false := by rcases h2 with h2 | h2
                                   · exact absurd rfl h2
                                   · exact h2
    have k3 : lt b a = false := by rcases k2 with k2 | k2
                                   · exact absurd rfl k2
                                   · exact k2
    rw [lt_conn h3 k3]
theorem lt_asymm {a b : Str} (h : lt a b = true) : lt b a = false := by
  cases e : lt b a with
  | false => rfl
  | true => have := lt_trans h e; rw [lt_irrefl] at this; cases this
theorem lt_ne {a b : Str} (h : lt a b = true) : a ≠ b := fun e => by rw [e, lt_irrefl] at h; cases h
/-- Not below, and not the same: above. -/
theorem gt_of {a b : Str} (h : lt a b = false) (hn : a ≠ b) : lt b a = true := by
  cases e : lt b a with
  | true => rfl
  | false => exact absurd (lt_conn h e) hn
theorem lt_of_not_of {a b c : Str} (h : lt a b = true) (k : lt c b = false) : lt a c = true := by
  by_cases e : b = c
  · rw [← e]; exact h
  · exact lt_trans h (gt_of k (fun x => e x.symm))

/-! ### Sorted pairs -/
def Srt (xs : List KV) : Prop := xs.Pairwise fun a b => lt a.1 b.1 = true
theorem Srt.nil : Srt [] := List.Pairwise.nil
theorem Srt.cons {e : KV} {r : List KV} (h : Srt (e :: r)) : (∀ x ∈ r, lt e.1 x.1 = true) ∧ Srt r := List.pairwise_cons.1 h
theorem Srt.mk {e : KV} {r : List KV} (h : ∀ x ∈ r, lt e.1 x.1 = true) (k : Srt r) : Srt (e :: r) := List.pairwise_cons.2 ⟨h, k⟩
theorem srt_append {a b : List KV} : Srt (a ++ b) ↔ Srt a ∧ Srt b ∧ ∀ x ∈ a, ∀ y ∈ b, lt x.1 y.1 = true := List.pairwise_append
theorem srt_mid {a b : List KV} {e : KV} : Srt (a ++ e :: b) ↔ Srt a ∧ Srt b ∧ (∀ x ∈ a, lt x.1 e.1 = true) ∧ (∀ y ∈ b, lt e.1 y.1 = true) := by
  rw [srt_append]
  constructor
  · rintro ⟨h1, h2, h3⟩
    obtain ⟨h4, h5⟩ := h2.cons
    exact ⟨h1, h5, fun x hx => h3 x hx e List.mem_cons_self, h4⟩
  · rintro ⟨h1, h2, h3, h4⟩
    refine ⟨h1, Srt.mk h4 h2, fun x hx y hy => ?_⟩
    rcases List.mem_cons.1 hy with rfl | hy
    · exact h3 x hx
    · exact lt_trans (h3 x hx) (h4 y hy)
theorem Srt.take {xs : List KV} (h : Srt xs) (n : Nat) : Srt (xs.take n) := List.Pairwise.sublist (List.take_sublist n xs) h
theorem Srt.drop {xs : List KV} (h : Srt xs) (n : Nat) : Srt (xs.drop n) := List.Pairwise.sublist (List.drop_sublist n xs) h
/-- A key stands once. -/
theorem Srt.uniq {xs : List KV} (h : Srt xs) {a b : KV} (ha : a ∈ xs) (hb : b ∈ xs) (e : a.1 = b.1) : a = b := by
  induction xs with
  | nil => cases ha
  | cons x r ih =>
    obtain ⟨h1, h2⟩ := h.cons
    rcases List.mem_cons.1 ha with e1 | a1 <;> rcases List.mem_cons.1 hb with e2 | b1
    · rw [e1, e2]
    · exact absurd e (lt_ne (by rw [e1]; exact h1 b b1))
    · exact absurd e.symm (lt_ne (by rw [e2]; exact h1 a a1))
    · exact ih h2 a1 b1

def place (k : Str) : List KV → Nat
  | [] => 0
  | e :: r => if lt e.1 k then place k r + 1 else 0
theorem place_le (k : Str) : ∀ xs : List KV, place k xs ≤ xs.length
  | [] => Nat.le_refl _
  | e :: r => by
    unfold place
    have := place_le k r
    split
    · simp only [List.length_cons]; omega
    · exact Nat.zero_le _
theorem place_all {k : Str} : ∀ {a : List KV}, (∀ x ∈ a, lt x.1 k = true) → ∀ b, place k (a ++ b) = a.length + place k b
  | [], _, b => by simp
  | e :: a, h, b => by
    have ih := place_all (fun x hx => h x (List.mem_cons_of_mem _ hx)) b
    show (if lt e.1 k then place k (a ++ b) + 1 else 0) = _
    rw [if_pos (h e List.mem_cons_self), ih, List.length_cons]
    omega
theorem place_full {k : Str} {a : List KV} (h : ∀ x ∈ a, lt x.1 k = true) : place k a = a.length := by
  have := place_all h []
  simpa [place] using this
theorem place_stop {k : Str} : ∀ {a : List KV} {e : KV} {b : List KV}, lt e.1 k = false → place k (a ++ e :: b) = place k a
  | [], e, b, h => by show (if lt e.1 k then _ else 0) = _; rw [h]; rfl
  | x :: a, e, b, h => by
    have ih := place_stop (a := a) (b := b) h
    show (if lt x.1 k then place k (a ++ e :: b) + 1 else 0) = (if lt x.1 k then place k a + 1 else 0)
    rw [ih]
theorem place_mid {k : Str} {a b : List KV} {e : KV} (h : Srt (a ++ e :: b)) : place k (a ++ e :: b) = if lt e.1 k then a.length + 1 + place k b else place k a := by
  obtain ⟨_, _, h3, _⟩ := srt_mid.1 h
  by_cases hk : lt e.1 k = true
  · rw [if_pos hk, place_all (fun x hx => lt_trans (h3 x hx) hk)]
    show a.length + (if lt e.1 k then place k b + 1 else 0) = _
    rw [if_pos hk]; omega
  · rw [if_neg hk]
    exact place_stop (by simpa using hk)
/-- What is ahead of the place is below the key. -/
theorem place_below (k : Str) : ∀ (xs : List KV), ∀ x ∈ xs.take (place k xs), lt x.1 k = true
  | [], x, h => by simp at h
  | e :: r, x, h => by
    unfold place at h
    by_cases hk : lt e.1 k = true
    · rw [if_pos hk, List.take_succ_cons] at h
      rcases List.mem_cons.1 h with rfl | h
      · exact hk
      · exact place_below k r x h
    · rw [if_neg hk] at h
      simp at h
theorem place_above {k : Str} : ∀ {xs : List KV}, Srt xs → ∀ x ∈ xs.drop (place k xs), lt x.1 k = false
  | [], _, x, h => by simp at h
  | e :: r, hs, x, h => by
    obtain ⟨h1, h2⟩ := hs.cons
    unfold place at h
    by_cases hk : lt e.1 k = true
    · rw [if_pos hk, List.drop_succ_cons] at h
      exact place_above h2 x h
    · rw [if_neg hk] at h
      rw [List.drop_zero] at h
      rcases List.mem_cons.1 h with rfl | h
      · simpa using hk
      · cases e2 : lt x.1 k with
        | false => rfl
        | true => exact absurd (lt_trans (h1 x h) e2) hk
def hit (k : Str) (xs : List KV) : Bool := match xs.drop (place k xs) with
  | [] => false
  | e :: _ => e.1 == k
def ins (k v : Str) (xs : List KV) : List KV := xs.take (place k xs) ++ (k, v) :: xs.drop (place k xs + if hit k xs then 1 else 0)
def era (k : Str) (xs : List KV) : List KV := if hit k xs then xs.take (place k xs) ++ xs.drop (place k xs + 1) else xs
def look (k : Str) (xs : List KV) : Option Str := match xs.drop (place k xs) with
  | [] => none
  | e :: _ => if e.1 = k then some e.2 else none
def next (k : Str) (xs : List KV) : Option KV := xs.find? fun e => lt k e.1
def range (f t : Str) (m : Int) (xs : List KV) : List KV := ((xs.drop (place f xs)).takeWhile fun e => t.isEmpty || lt e.1 t).take m.toNat
theorem hit_mem {k : Str} {xs : List KV} (hs : Srt xs) : hit k xs = true ↔ ∃ e ∈ xs, e.1 = k := by
  have hb := place_below k xs
  have ha := place_above (k := k) hs
  have hd := List.take_append_drop (place k xs) xs
  unfold hit
  constructor
  · intro h
    split at h
    · cases h
    · rename_i e r he
      exact ⟨e, by rw [← hd, he]; simp, by simpa using h⟩
  · rintro ⟨e, he, rfl⟩
    rw [← hd] at he
    rcases List.mem_append.1 he with he | he
    · have := hb e he; rw [lt_irrefl] at this; cases this
    · have hs2 := hs.drop (place e.1 xs)
      cases hx : xs.drop (place e.1 xs) with
      | nil => rw [hx] at he; cases he
      | cons y r =>
        rw [hx] at he hs2 ha
        rcases List.mem_cons.1 he with rfl | he
        · simp
        · have h1 := hs2.cons.1 e he
          have h2 := ha y List.mem_cons_self
          rw [h1] at h2; cases h2
theorem look_hit (k : Str) (xs : List KV) : (look k xs).isSome = hit k xs := by
  unfold look hit
  split
  · rfl
  · rename_i e r _
    by_cases h : e.1 = k
    · simp [h]
    · simp [h]
theorem look_some {k v : Str} {xs : List KV} (hs : Srt xs) : look k xs = some v ↔ (k, v) ∈ xs := by
  have hd := List.take_append_drop (place k xs) xs
  have hb := place_below k xs
  constructor
  · intro h
    unfold look at h
    split at h
    · cases h
    · rename_i e r he
      split at h
      · rename_i hk
        simp only [Option.some.injEq] at h
        rw [← hd, he, ← hk, ← h]; simp
      · cases h
  · intro hm
    have hh : hit k xs = true := (hit_mem hs).2 ⟨_, hm, rfl⟩
    rw [← look_hit] at hh
    cases e : look k xs with
    | none => rw [e] at hh; cases hh
    | some u =>
      have : (k, u) ∈ xs := by
        unfold look at e
        split at e
        · cases e
        · rename_i y r he
          split at e
          · rename_i hk
            simp only [Option.some.injEq] at e
            rw [← hd, he, ← hk, ← e]; simp
          · cases e
      have := hs.uniq this hm rfl
      simp only [Prod.mk.injEq] at this
      rw [this.2]
theorem place_drop1 {k : Str} {xs : List KV} (hs : Srt xs) (n : Nat) (hn : n = if hit k xs then 1 else 0) : ∀ x ∈ xs.drop (place k xs + n), lt k x.1 = true := by
  intro x hx
  have ha := place_above (k := k) hs
  rw [← List.drop_drop] at hx
  have hs2 := hs.drop (place k xs)
  unfold hit at hn
  cases e : xs.drop (place k xs) with
  | nil => rw [e] at hx; simp at hx
  | cons y r =>
    rw [e] at hx hn ha hs2
    simp only at hn
    by_cases hy : y.1 = k
    · rw [if_pos (by simpa using hy)] at hn
      subst hn
      rw [List.drop_succ_cons, List.drop_zero] at hx
      rw [← hy]
      exact hs2.cons.1 x hx
    · rw [if_neg (by simpa using hy)] at hn
      subst hn
      rw [List.drop_zero] at hx
      have h1 := gt_of (ha y List.mem_cons_self) hy
      rcases List.mem_cons.1 hx with rfl | hx
      · exact h1
      · exact lt_trans h1 (hs2.cons.1 x hx)
theorem ins_srt {k v : Str} {xs : List KV} (hs : Srt xs) : Srt (ins k v xs) :=
  srt_mid.2 ⟨hs.take _, hs.drop _, place_below k xs, place_drop1 hs _ rfl⟩
theorem era_srt {k : Str} {xs : List KV} (hs : Srt xs) : Srt (era k xs) := by
  unfold era
  by_cases h : hit k xs = true
  · rw [if_pos h]
    refine srt_append.2 ⟨hs.take _, hs.drop _, fun x hx y hy => lt_trans (place_below k xs x hx) (place_drop1 (k := k) hs 1 (by rw [if_pos h]) y hy)⟩
  · rw [if_neg h]; exact hs
/-- What stands in a table where something was put. -/
theorem ins_mem {k v : Str} {xs : List KV} (hs : Srt xs) (e : KV) : e ∈ ins k v xs ↔ e = (k, v) ∨ (e ∈ xs ∧ e.1 ≠ k) := by
  have hd := List.take_append_drop (place k xs) xs
  have h1 := place_below k xs
  have h2 := place_drop1 (k := k) hs _ rfl
  unfold ins
  rw [List.mem_append, List.mem_cons]
  constructor
  · rintro (h | rfl | h)
    · exact .inr ⟨List.mem_of_mem_take h, lt_ne (h1 e h)⟩
    · exact .inl rfl
    · exact .inr ⟨List.mem_of_mem_drop h, fun x => lt_ne (h2 e h) x.symm⟩
  · rintro (rfl | ⟨h, hne⟩)
    · exact .inr (.inl rfl)
    · rw [← hd] at h
      rcases List.mem_append.1 h with h | h
      · exact .inl h
      · refine .inr (.inr ?_)
        rw [← List.drop_drop]
        by_cases hh : hit k xs = true
        · rw [if_pos hh]
          unfold hit at hh
          cases e2 : xs.drop (place k xs) with
          | nil => rw [e2] at h; cases h
          | cons y r =>
            rw [e2] at h hh
            rcases List.mem_cons.1 h with rfl | h
            · exact absurd (by simpa using hh) hne
            · exact h
        · rw [if_neg hh]; exact h
theorem era_mem {k : Str} {xs : List KV} (hs : Srt xs) (e : KV) : e ∈ era k xs ↔ e ∈ xs ∧ e.1 ≠ k := by
  unfold era
  by_cases hh : hit k xs = true
  · rw [if_pos hh]
    have hd := List.take_append_drop (place k xs) xs
    have h1 := place_below k xs
    have h2 := place_drop1 (k := k) hs 1 (by rw [if_pos hh])
    rw [List.mem_append]
    constructor
    · rintro (h | h)
      · exact ⟨List.mem_of_mem_take h, lt_ne (h1 e h)⟩
      · exact ⟨List.mem_of_mem_drop h, fun x => lt_ne (h2 e h) x.symm⟩
    · rintro ⟨h, hne⟩
      rw [← hd] at h
      rcases List.mem_append.1 h with h | h
      · exact .inl h
      · refine .inr ?_
        rw [← List.drop_drop]
        unfold hit at hh
        cases e2 : xs.drop (place k xs) with
        | nil => rw [e2] at h; cases h
        | cons y r =>
          rw [e2] at h hh
          rcases List.mem_cons.1 h with rfl | h
          · exact absurd (by simpa using hh) hne
          · exact h
  · rw [if_neg hh]
    exact ⟨fun h => ⟨h, fun e2 => hh ((hit_mem hs).2 ⟨e, h, e2⟩)⟩, fun h => h.1⟩
/-- Sorted pairs are what their members are. -/
theorem srt_ext : ∀ {xs ys : List KV}, Srt xs → Srt ys → (∀ e, e ∈ xs ↔ e ∈ ys) → xs = ys
  | [], [], _, _, _ => rfl
  | [], y :: ys, _, _, h => by have := (h y).2 List.mem_cons_self; cases this
  | x :: xs, [], _, _, h => by have := (h x).1 List.mem_cons_self; cases this
  | x :: xs, y :: ys, hx, hy, h => by
    obtain ⟨x1, x2⟩ := hx.cons
    obtain ⟨y1, y2⟩ := hy.cons
    have e : x = y := by
      rcases List.mem_cons.1 ((h x).1 List.mem_cons_self) with e | h1
      · exact e
      · rcases List.mem_cons.1 ((h y).2 List.mem_cons_self) with e | h2
        · exact e.symm
        · have := lt_asymm (y1 x h1)
          rw [x1 y h2] at this; cases this
    subst e
    rw [srt_ext x2 y2 (fun e => ?_)]
    have := h e
    rw [List.mem_cons, List.mem_cons] at this
    constructor
    · intro he
      rcases this.1 (.inr he) with e2 | h3
      · rw [e2] at he; have := x1 x he; rw [lt_irrefl] at this; cases this
      · exact h3
    · intro he
      rcases this.2 (.inr he) with e2 | h3
      · rw [e2] at he; have := y1 x he; rw [lt_irrefl] at this; cases this
      · exact h3
theorem ins_length {k v : Str} {xs : List KV} : (ins k v xs).length ≤ xs.length + 1 := by
  have := place_le k xs
  unfold ins
  rw [List.length_append, List.length_cons, List.length_take, List.length_drop]
  split <;> omega
theorem era_length {k : Str} {xs : List KV} : (era k xs).length ≤ xs.length := by
  have := place_le k xs
  unfold era
  split
  · rw [List.length_append, List.length_take, List.length_drop]; omega
  · exact Nat.le_refl _
end Go.Proofs.Ytekcphpeaoaaaaa

/- Version vectors, without a program: lists of counts, the values of two side by side, and what a merge, a comparison and the total order are. -/
namespace Go.Proofs.YtlmfjalkgapcgaaDoor
set_option linter.unusedVariables false
set_option linter.unusedSimpArgs false

structure Ct where
  d : Int
  n : Nat
deriving DecidableEq
/-- The values of two vectors at a device. -/
structure P3 where
  d : Int
  m : Nat
  t : Nat
def okC (last : Int) (c : Ct) : Bool := decide (1 ≤ c.d ∧ c.d ≤ 16 ∧ last < c.d ∧ c.n ≠ 0)
def vld : Int → List Ct → Bool
  | _, [] => true
  | last, c :: l => okC last c && vld c.d l
/-- The value of the first count of a device. -/
def vl : List Ct → Int → Nat
  | [], _ => 0
  | c :: l, d => if c.d = d then c.n else vl l d
def ag : List Ct → List Ct → List P3
  | [], o => o.map fun c => ⟨c.d, 0, c.n⟩
  | c :: l, [] => ⟨c.d, c.n, 0⟩ :: ag l []
  | c :: l, x :: o => if x.d < c.d then ⟨x.d, 0, x.n⟩ :: ag (c :: l) o else if x.d = c.d then ⟨c.d, c.n, x.n⟩ :: ag l o else ⟨c.d, c.n, 0⟩ :: ag l (x :: o)
termination_by l o => l.length + o.length
def mx (p : P3) : Ct := ⟨p.d, max p.m p.t⟩
def mg (l o : List Ct) : List Ct := (ag l o).map mx
def dfl : List P3 → Int
  | [] => 0
  | p :: l => if p.m = p.t then dfl l else if p.m < p.t then -1 else 1
def lessP (p : P3) : Bool := decide (p.m < p.t)
def moreP (p : P3) : Bool := decide (p.t < p.m)
def cpOf (a b : Bool) : Int := if a && b then 4 else if a then 2 else if b then 3 else 1
def cp (l o : List Ct) : Int := cpOf ((ag l o).any lessP) ((ag l o).any moreP)
def sm : List Ct → Nat
  | [] => 0
  | c :: l => c.n + sm l
def cmpN (a b : Nat) : Int := if a < b then -1 else if b < a then 1 else 0
def od (l o : List Ct) : Int := if cmpN (sm l) (sm o) ≠ 0 then cmpN (sm l) (sm o) else dfl (ag l o)

/-! ### Valid vectors -/
theorem vld_cons {a : Int} {c : Ct} {l : List Ct} : vld a (c :: l) = true ↔ (1 ≤ c.d ∧ c.d ≤ 16 ∧ a < c.d ∧ c.n ≠ 0) ∧ vld c.d l = true := by
  simp [vld, okC]
theorem vld_down {a b : Int} {l : List Ct} (h : vld b l = true) (hab : a ≤ b) : vld a l = true := by
  cases l with
  | nil => rfl
  | cons c l => rw [vld_cons] at *; exact ⟨⟨h.1.1, h.1.2.1, by omega, h.1.2.2.2⟩, h.2⟩
theorem vl_low {l : List Ct} : ∀ {a : Int}, vld a l = true → ∀ d, d ≤ a → vl l d = 0 := by
  induction l with
  | nil => intros; rfl
  | cons c l ih =>
    intro a h d hd
    rw [vld_cons] at h
    show (if c.d = d then c.n else vl l d) = 0
    rw [if_neg (by omega)]
    exact ih h.2 d (by omega)
theorem vl_in {l : List Ct} : ∀ {a : Int}, vld a l = true → ∀ d, vl l d ≠ 0 → a < d ∧ 1 ≤ d ∧ d ≤ 16 := by
  induction l with
  | nil => intro a _ d h; exact absurd rfl h
  | cons c l ih =>
    intro a h d hd
    rw [vld_cons] at h
    by_cases e : c.d = d
    · subst e; exact ⟨h.1.2.2.1, h.1.1, h.1.2.1⟩
    · have : vl l d ≠ 0 := by
        intro e2; apply hd; show (if c.d = d then c.n else vl l d) = 0; rw [if_neg e]; exact e2
      have := ih h.2 d this
      omega
theorem vl_ext {l : List Ct} : ∀ {o : List Ct} {a : Int}, vld a l = true → vld a o = true → (∀ d, vl l d = vl o d) → l = o := by
  induction l with
  | nil =>
    intro o a _ h e
    cases o with
    | nil => rfl
    | cons c o =>
      rw [vld_cons] at h
      have := e c.d
      simp [vl] at this
      omega
  | cons c l ih =>
    intro o a h k e
    cases o with
    | nil =>
      rw [vld_cons] at h
      have := e c.d
      simp [vl] at this
      omega
    | cons x o =>
      rw [vld_cons] at h k
      have hd : c.d = x.d := by
        rcases Int.lt_trichotomy c.d x.d with q | q | q
        · have := e c.d
          simp only [vl, if_true] at this
          rw [if_neg (by omega), vl_low k.2 c.d (by omega)] at this
          omega
        · exact q
        · have := e x.d
          simp only [vl, if_true] at this
          rw [if_neg (by omega), vl_low h.2 x.d (by omega)] at this
          omega
      have hn : c.n = x.n := by
        have := e c.d
        simpa [vl, hd] using this
      have hl : l = o := ih h.2 (by rw [hd]; exact k.2) fun d => by
        have := e d
        by_cases q : c.d = d
        · rw [vl_low h.2 d (by omega), vl_low k.2 d (by omega)]
        · simp only [vl] at this
          rwa [if_neg q, if_neg (by omega)] at this
      obtain ⟨_, _⟩ := c
      obtain ⟨_, _⟩ := x
      simp_all
theorem vld_of {l : List Ct} : ∀ {a : Int}, (∀ c ∈ l, 1 ≤ c.d ∧ c.d ≤ 16 ∧ a < c.d ∧ c.n ≠ 0) → l.Pairwise (fun x y => x.d < y.d) → vld a l = true := by
  induction l with
  | nil => intros; rfl
  | cons c l ih =>
    intro a h k
    rw [vld_cons]
    rw [List.pairwise_cons] at k
    exact ⟨h c (by simp), ih (fun x hx => by have := h x (by simp [hx]); have := k.1 x hx; omega) k.2⟩

/-! ### Two side by side -/
structure Ag (a : Int) (l o : List Ct) (t : List P3) : Prop where
  mem : ∀ p ∈ t, a < p.d ∧ 1 ≤ p.d ∧ p.d ≤ 16 ∧ p.m = vl l p.d ∧ p.t = vl o p.d ∧ (p.m ≠ 0 ∨ p.t ≠ 0)
  asc : t.Pairwise (fun x y => x.d < y.d)
  all : ∀ d, vl l d ≠ 0 ∨ vl o d ≠ 0 → ∃ p ∈ t, p.d = d
theorem vl_cons_ne {c : Ct} {l : List Ct} {d : Int} (h : c.d ≠ d) : vl (c :: l) d = vl l d := if_neg h
theorem vl_cons_eq {c : Ct} {l : List Ct} {d : Int} (h : c.d = d) : vl (c :: l) d = c.n := if_pos h
theorem ag_left {l : List Ct} : ag l [] = l.map fun c => ⟨c.d, c.n, 0⟩ := by
  induction l with
  | nil => simp [ag]
  | cons c l ih => rw [ag, ih]; rfl
theorem ag_cons {a : Int} {l l' o o' : List Ct} {t : List P3} {p : P3} (h : Ag p.d l o t) (hp : a < p.d ∧ 1 ≤ p.d ∧ p.d ≤ 16 ∧ p.m = vl l' p.d ∧ p.t = vl o' p.d ∧ (p.m ≠ 0 ∨ p.t ≠ 0))
    (h1 : ∀ d, p.d < d → vl l' d = vl l d) (h2 : ∀ d, p.d < d → vl o' d = vl o d) (h3 : ∀ d, d < p.d → vl l' d = 0 ∧ vl o' d = 0) : Ag a l' o' (p :: t) := by
  refine ⟨fun q hq => ?_, List.pairwise_cons.2 ⟨fun q hq => (h.mem q hq).1, h.asc⟩, fun d hd => ?_⟩
  · rcases List.mem_cons.1 hq with rfl | hq
    · exact hp
    · have := h.mem q hq
      rw [h1 _ this.1, h2 _ this.1]
      exact ⟨by omega, this.2⟩
  · rcases Int.lt_trichotomy d p.d with q | q | q
    · obtain ⟨e1, e2⟩ := h3 d q; omega
    · exact ⟨p, by simp, q.symm⟩
    · rw [h1 d q, h2 d q] at hd
      obtain ⟨x, hx, e⟩ := h.all d hd
      exact ⟨x, by simp [hx], e⟩
theorem ag_nil_l {o : List Ct} : ∀ {a : Int}, vld a o = true → Ag a [] o (o.map fun c => ⟨c.d, 0, c.n⟩) := by
  induction o with
  | nil =>
    intro a _
    exact { mem := fun p hp => absurd hp (by simp), asc := List.Pairwise.nil, all := fun d hd => absurd hd (by simp [vl]) }
  | cons c o ih =>
    intro a h
    rw [vld_cons] at h
    exact ag_cons (p := ⟨c.d, 0, c.n⟩) (ih h.2) ⟨h.1.2.2.1, h.1.1, h.1.2.1, rfl, (vl_cons_eq rfl).symm, .inr h.1.2.2.2⟩ (fun _ _ => rfl) (fun d hd => vl_cons_ne (by simp at hd; omega)) fun d hd => ⟨rfl, by
      rw [vl_cons_ne (by simp at hd; omega)]; exact vl_low h.2 d (by simp at hd; omega)⟩
theorem ag_ok : ∀ (l o : List Ct) {a : Int}, vld a l = true → vld a o = true → Ag a l o (ag l o)
  | [], o, a, _, h => by rw [ag]; exact ag_nil_l h
  | c :: l, [], a, h, _ => by
    rw [ag]
    rw [vld_cons] at h
    exact ag_cons (p := ⟨c.d, c.n, 0⟩) (ag_ok l [] h.2 rfl) ⟨h.1.2.2.1, h.1.1, h.1.2.1, (vl_cons_eq rfl).symm, rfl, .inl h.1.2.2.2⟩ (fun d hd => vl_cons_ne (by simp at hd; omega)) (fun _ _ => rfl) fun d hd => ⟨by
      rw [vl_cons_ne (by simp at hd; omega)]; exact vl_low h.2 d (by simp at hd; omega), rfl⟩
  | c :: l, x :: o, a, h, k => by
    rw [ag]
    have h' := h
    have k' := k
    rw [vld_cons] at h k
    split
    · rename_i hlt
      exact ag_cons (p := ⟨x.d, 0, x.n⟩) (ag_ok (c :: l) o (a := x.d) (by rw [vld_cons]; exact ⟨⟨h.1.1, h.1.2.1, hlt, h.1.2.2.2⟩, h.2⟩) k.2)
        ⟨k.1.2.2.1, k.1.1, k.1.2.1, by rw [vl_cons_ne (by simp; omega)]; exact (vl_low h.2 _ (by simp; omega)).symm, (vl_cons_eq rfl).symm, .inr k.1.2.2.2⟩ (fun d hd => rfl) (fun d hd => vl_cons_ne (by simp at hd; omega)) fun d hd => by
          simp at hd
          exact ⟨by rw [vl_cons_ne (by omega)]; exact vl_low h.2 d (by omega), by rw [vl_cons_ne (by omega)]; exact vl_low k.2 d (by omega)⟩
    · rename_i hlt
      split
      · rename_i he
        exact ag_cons (p := ⟨c.d, c.n, x.n⟩) (ag_ok l o (a := c.d) h.2 (by rw [← he]; exact k.2))
          ⟨h.1.2.2.1, h.1.1, h.1.2.1, (vl_cons_eq rfl).symm, (vl_cons_eq he).symm, .inl h.1.2.2.2⟩ (fun d hd => vl_cons_ne (by simp at hd; omega)) (fun d hd => vl_cons_ne (by simp at hd; omega)) fun d hd => by
            simp at hd
            exact ⟨by rw [vl_cons_ne (by omega)]; exact vl_low h.2 d (by omega), by rw [vl_cons_ne (by omega)]; exact vl_low k.2 d (by omega)⟩
      · rename_i he
        exact ag_cons (p := ⟨c.d, c.n, 0⟩) (ag_ok l (x :: o) (a := c.d) h.2 (by rw [vld_cons]; exact ⟨⟨k.1.1, k.1.2.1, by omega, k.1.2.2.2⟩, k.2⟩))
          ⟨h.1.2.2.1, h.1.1, h.1.2.1, (vl_cons_eq rfl).symm, by rw [vl_cons_ne (by simp; omega)]; exact (vl_low k.2 _ (by simp; omega)).symm, .inl h.1.2.2.2⟩ (fun d hd => vl_cons_ne (by simp at hd; omega)) (fun d hd => rfl) fun d hd => by
            simp at hd
            exact ⟨by rw [vl_cons_ne (by omega)]; exact vl_low h.2 d (by omega), by rw [vl_cons_ne (by omega)]; exact vl_low k.2 d (by omega)⟩
termination_by l o => l.length + o.length

section
variable {l o c : List Ct}
theorem vl_of_mem {t : List Ct} (hp : t.Pairwise (fun x y => x.d < y.d)) {x : Ct} (h : x ∈ t) : vl t x.d = x.n := by
  induction t with
  | nil => cases h
  | cons y t ih =>
    rw [List.pairwise_cons] at hp
    rcases List.mem_cons.1 h with rfl | h
    · exact vl_cons_eq rfl
    · rw [vl_cons_ne (by have := hp.1 x h; omega)]; exact ih hp.2 h
theorem vl_none {t : List Ct} {d : Int} (h : ∀ x ∈ t, x.d ≠ d) : vl t d = 0 := by
  induction t with
  | nil => rfl
  | cons y t ih => rw [vl_cons_ne (h y (by simp))]; exact ih fun x hx => h x (by simp [hx])
theorem mg_asc (hl : vld 0 l = true) (ho : vld 0 o = true) : (mg l o).Pairwise (fun x y => x.d < y.d) := by
  unfold mg
  rw [List.pairwise_map]
  exact (ag_ok l o hl ho).asc
theorem mg_vld (hl : vld 0 l = true) (ho : vld 0 o = true) : vld 0 (mg l o) = true := by
  refine vld_of (fun x hx => ?_) (mg_asc hl ho)
  obtain ⟨p, hp, rfl⟩ := List.mem_map.1 hx
  obtain ⟨h1, h2, h3, _, _, h6⟩ := (ag_ok l o hl ho).mem p hp
  exact ⟨h2, h3, h1, by show max p.m p.t ≠ 0; omega⟩
theorem mg_vl (hl : vld 0 l = true) (ho : vld 0 o = true) (d : Int) : vl (mg l o) d = max (vl l d) (vl o d) := by
  have A := ag_ok l o hl ho
  by_cases h : vl l d ≠ 0 ∨ vl o d ≠ 0
  · obtain ⟨p, hp, rfl⟩ := A.all d h
    have e : mx p ∈ mg l o := List.mem_map.2 ⟨p, hp, rfl⟩
    have := vl_of_mem (mg_asc hl ho) e
    obtain ⟨_, _, _, h4, h5, _⟩ := A.mem p hp
    show vl (mg l o) (mx p).d = _
    rw [this]
    show max p.m p.t = _
    rw [h4, h5]
  · have e1 : vl l d = 0 := by omega
    have e2 : vl o d = 0 := by omega
    rw [e1, e2]
    refine vl_none fun x hx => ?_
    obtain ⟨p, hp, rfl⟩ := List.mem_map.1 hx
    obtain ⟨_, _, _, h4, h5, h6⟩ := A.mem p hp
    intro e
    have e' : p.d = d := e
    rw [e'] at h4 h5
    omega
theorem less_iff (hl : vld 0 l = true) (ho : vld 0 o = true) : (ag l o).any lessP = true ↔ ∃ d, vl l d < vl o d := by
  have A := ag_ok l o hl ho
  rw [List.any_eq_true]
  constructor
  · rintro ⟨p, hp, h⟩
    obtain ⟨_, _, _, h4, h5, _⟩ := A.mem p hp
    exact ⟨p.d, by rw [← h4, ← h5]; simpa [lessP] using h⟩
  · rintro ⟨d, h⟩
    obtain ⟨p, hp, rfl⟩ := A.all d (by omega)
    obtain ⟨_, _, _, h4, h5, _⟩ := A.mem p hp
    exact ⟨p, hp, by simp [lessP]; omega⟩
theorem more_iff (hl : vld 0 l = true) (ho : vld 0 o = true) : (ag l o).any moreP = true ↔ ∃ d, vl o d < vl l d := by
  have A := ag_ok l o hl ho
  rw [List.any_eq_true]
  constructor
  · rintro ⟨p, hp, h⟩
    obtain ⟨_, _, _, h4, h5, _⟩ := A.mem p hp
    exact ⟨p.d, by rw [← h4, ← h5]; simpa [moreP] using h⟩
  · rintro ⟨d, h⟩
    obtain ⟨p, hp, rfl⟩ := A.all d (by omega)
    obtain ⟨_, _, _, h4, h5, _⟩ := A.mem p hp
    exact ⟨p, hp, by simp [moreP]; omega⟩
theorem swap_less (hl : vld 0 l = true) (ho : vld 0 o = true) : (ag l o).any lessP = (ag o l).any moreP := by
  rw [Bool.eq_iff_iff, less_iff hl ho, more_iff ho hl]
theorem cp_swap (hl : vld 0 l = true) (ho : vld 0 o = true) : cp o l = cpOf ((ag l o).any moreP) ((ag l o).any lessP) := by
  unfold cp
  rw [swap_less ho hl, ← swap_less hl ho]
theorem cpOf_4 {a b : Bool} : cpOf a b = 4 ↔ a = true ∧ b = true := by cases a <;> cases b <;> decide
theorem cpOf_2 {a b : Bool} : cpOf a b = 2 ↔ a = true ∧ b = false := by cases a <;> cases b <;> decide
theorem cpOf_3 {a b : Bool} : cpOf a b = 3 ↔ a = false ∧ b = true := by cases a <;> cases b <;> decide
theorem cpOf_1 {a b : Bool} : cpOf a b = 1 ↔ a = false ∧ b = false := by cases a <;> cases b <;> decide
theorem less_no (hl : vld 0 l = true) (ho : vld 0 o = true) : (ag l o).any lessP = false ↔ ∀ d, vl o d ≤ vl l d := by
  rw [← Bool.not_eq_true, less_iff hl ho]
  exact ⟨fun h d => by have : ¬ vl l d < vl o d := fun e => h ⟨d, e⟩; omega, fun h ⟨d, e⟩ => by have := h d; omega⟩
theorem more_no (hl : vld 0 l = true) (ho : vld 0 o = true) : (ag l o).any moreP = false ↔ ∀ d, vl l d ≤ vl o d := by
  rw [← Bool.not_eq_true, more_iff hl ho]
  exact ⟨fun h d => by have : ¬ vl o d < vl l d := fun e => h ⟨d, e⟩; omega, fun h ⟨d, e⟩ => by have := h d; omega⟩
theorem cp_2 (hl : vld 0 l = true) (ho : vld 0 o = true) : cp l o = 2 ↔ (∃ d, vl l d < vl o d) ∧ ∀ d, vl l d ≤ vl o d := by
  unfold cp; rw [cpOf_2, less_iff hl ho, more_no hl ho]
theorem cp_3 (hl : vld 0 l = true) (ho : vld 0 o = true) : cp l o = 3 ↔ (∀ d, vl o d ≤ vl l d) ∧ ∃ d, vl o d < vl l d := by
  unfold cp; rw [cpOf_3, more_iff hl ho, less_no hl ho]
theorem cp_4 (hl : vld 0 l = true) (ho : vld 0 o = true) : cp l o = 4 ↔ (∃ d, vl l d < vl o d) ∧ ∃ d, vl o d < vl l d := by
  unfold cp; rw [cpOf_4, less_iff hl ho, more_iff hl ho]
theorem cp_1 (hl : vld 0 l = true) (ho : vld 0 o = true) : cp l o = 1 ↔ l = o := by
  unfold cp
  rw [cpOf_1, less_no hl ho, more_no hl ho]
  exact ⟨fun h => vl_ext hl ho fun d => by have := h.1 d; have := h.2 d; omega, fun h => by subst h; exact ⟨fun _ => Nat.le_refl _, fun _ => Nat.le_refl _⟩⟩
theorem cp_in (l o : List Ct) : cp l o = 1 ∨ cp l o = 2 ∨ cp l o = 3 ∨ cp l o = 4 := by
  unfold cp
  cases (ag l o).any lessP <;> cases (ag l o).any moreP <;> simp [cpOf]
/-- Before, or the same. -/
theorem cp_le (hl : vld 0 l = true) (ho : vld 0 o = true) : (cp l o = 2 ∨ cp l o = 1) ↔ ∀ d, vl l d ≤ vl o d := by
  rw [cp_2 hl ho, cp_1 hl ho]
  constructor
  · rintro (h | rfl)
    · exact h.2
    · exact fun _ => Nat.le_refl _
  · intro h
    by_cases e : ∃ d, vl l d < vl o d
    · exact .inl ⟨e, h⟩
    · exact .inr (vl_ext hl ho fun d => by have := h d; have : ¬ vl l d < vl o d := fun q => e ⟨d, q⟩; omega)

/-! ### The total order -/
def sP (f : P3 → Nat) : List P3 → Nat
  | [] => 0
  | p :: l => f p + sP f l
theorem sm_map (f : Ct → P3) (g : P3 → Nat) (h : ∀ c, g (f c) = c.n) (l : List Ct) : sP g (l.map f) = sm l := by
  induction l with
  | nil => rfl
  | cons c l ih => show g (f c) + sP g (l.map f) = c.n + sm l; rw [h, ih]
theorem sm_zero (f : Ct → P3) (g : P3 → Nat) (h : ∀ c, g (f c) = 0) (l : List Ct) : sP g (l.map f) = 0 := by
  induction l with
  | nil => rfl
  | cons c l ih => show g (f c) + sP g (l.map f) = 0; rw [h, ih]
theorem sm_ag : ∀ (l o : List Ct), sP (·.m) (ag l o) = sm l ∧ sP (·.t) (ag l o) = sm o
  | [], o => by rw [ag]; exact ⟨sm_zero _ _ (fun _ => rfl) o, sm_map _ _ (fun _ => rfl) o⟩
  | c :: l, [] => by
    rw [ag_left]
    exact ⟨sm_map _ _ (fun _ => rfl) (c :: l), sm_zero _ _ (fun _ => rfl) (c :: l)⟩
  | c :: l, x :: o => by
    rw [ag]
    split
    · obtain ⟨h1, h2⟩ := sm_ag (c :: l) o
      exact ⟨by show 0 + sP _ _ = _; rw [h1]; omega, by show x.n + sP _ _ = x.n + sm o; rw [h2]⟩
    · split
      · obtain ⟨h1, h2⟩ := sm_ag l o
        exact ⟨by show c.n + sP _ _ = c.n + sm l; rw [h1], by show x.n + sP _ _ = x.n + sm o; rw [h2]⟩
      · obtain ⟨h1, h2⟩ := sm_ag l (x :: o)
        exact ⟨by show c.n + sP _ _ = c.n + sm l; rw [h1], by show 0 + sP _ _ = _; rw [h2]; omega⟩
termination_by l o => l.length + o.length
theorem sP_le {t : List P3} (h : ∀ p ∈ t, p.m ≤ p.t) : sP (·.m) t ≤ sP (·.t) t ∧ ((∃ p ∈ t, p.m < p.t) → sP (·.m) t < sP (·.t) t) := by
  induction t with
  | nil => exact ⟨Nat.le_refl _, fun ⟨_, h, _⟩ => by cases h⟩
  | cons p t ih =>
    obtain ⟨h1, h2⟩ := ih fun q hq => h q (by simp [hq])
    have := h p (by simp)
    have e1 : sP (·.m) (p :: t) = p.m + sP (·.m) t := rfl
    have e2 : sP (·.t) (p :: t) = p.t + sP (·.t) t := rfl
    rw [e1, e2]
    refine ⟨by omega, ?_⟩
    rintro ⟨q, hq, hlt⟩
    rcases List.mem_cons.1 hq with rfl | hq
    · omega
    · have := h2 ⟨q, hq, hlt⟩; omega
theorem dfl_in (t : List P3) : dfl t = -1 ∨ dfl t = 0 ∨ dfl t = 1 := by
  induction t with
  | nil => exact .inr (.inl rfl)
  | cons p t ih =>
    unfold dfl
    split
    · exact ih
    · split
      · exact .inl rfl
      · exact .inr (.inr rfl)
theorem dfl_0 {t : List P3} : dfl t = 0 ↔ ∀ p ∈ t, p.m = p.t := by
  induction t with
  | nil => simp [dfl]
  | cons p t ih =>
    unfold dfl
    split
    · rename_i h; simp [ih, h]
    · rename_i h
      split <;> simp [h]
theorem dfl_neg {t : List P3} (ha : t.Pairwise (fun x y => x.d < y.d)) : dfl t = -1 ↔ ∃ p ∈ t, p.m < p.t ∧ ∀ q ∈ t, q.d < p.d → q.m = q.t := by
  induction t with
  | nil => simp [dfl]
  | cons p t ih =>
    rw [List.pairwise_cons] at ha
    unfold dfl
    split
    · rename_i h
      rw [ih ha.2]
      constructor
      · rintro ⟨x, hx, h1, h2⟩
        refine ⟨x, by simp [hx], h1, fun q hq hlt => ?_⟩
        rcases List.mem_cons.1 hq with rfl | hq
        · exact h
        · exact h2 q hq hlt
      · rintro ⟨x, hx, h1, h2⟩
        rcases List.mem_cons.1 hx with rfl | hx
        · omega
        · exact ⟨x, hx, h1, fun q hq => h2 q (by simp [hq])⟩
    · rename_i h
      split
      · rename_i h2
        refine ⟨fun _ => ⟨p, by simp, h2, fun q hq hlt => ?_⟩, fun _ => rfl⟩
        rcases List.mem_cons.1 hq with rfl | hq
        · omega
        · have := ha.1 q hq; omega
      · rename_i h2
        refine ⟨fun e => by omega, ?_⟩
        rintro ⟨x, hx, h3, h4⟩
        rcases List.mem_cons.1 hx with rfl | hx
        · omega
        · exact absurd (h4 p (by simp) (ha.1 x hx)) h
/-- a's value is less at the first device at which they differ. -/
def Fst (a b : List Ct) : Prop := ∃ d, vl a d < vl b d ∧ ∀ e, e < d → vl a e = vl b e
theorem ag_neg (hl : vld 0 l = true) (ho : vld 0 o = true) : dfl (ag l o) = -1 ↔ Fst l o := by
  have A := ag_ok l o hl ho
  rw [dfl_neg A.asc]
  constructor
  · rintro ⟨p, hp, h1, h2⟩
    obtain ⟨_, _, _, h4, h5, _⟩ := A.mem p hp
    refine ⟨p.d, by omega, fun e he => ?_⟩
    by_cases h : vl l e ≠ 0 ∨ vl o e ≠ 0
    · obtain ⟨q, hq, rfl⟩ := A.all e h
      obtain ⟨_, _, _, h6, h7, _⟩ := A.mem q hq
      have := h2 q hq he
      omega
    · omega
  · rintro ⟨d, h1, h2⟩
    obtain ⟨p, hp, rfl⟩ := A.all d (by omega)
    obtain ⟨_, _, _, h4, h5, _⟩ := A.mem p hp
    refine ⟨p, hp, by omega, fun q hq hlt => ?_⟩
    obtain ⟨_, _, _, h6, h7, _⟩ := A.mem q hq
    have := h2 q.d hlt
    omega
theorem ag_0 (hl : vld 0 l = true) (ho : vld 0 o = true) : dfl (ag l o) = 0 ↔ l = o := by
  have A := ag_ok l o hl ho
  rw [dfl_0]
  constructor
  · intro h
    refine vl_ext hl ho fun d => ?_
    by_cases e : vl l d ≠ 0 ∨ vl o d ≠ 0
    · obtain ⟨q, hq, rfl⟩ := A.all d e
      obtain ⟨_, _, _, h6, h7, _⟩ := A.mem q hq
      have := h q hq
      omega
    · omega
  · rintro rfl p hp
    obtain ⟨_, _, _, h6, h7, _⟩ := A.mem p hp
    omega
theorem Fst.no (h : Fst l o) (k : Fst o l) : False := by
  obtain ⟨d, h1, h2⟩ := h
  obtain ⟨e, k1, k2⟩ := k
  rcases Int.lt_trichotomy d e with q | q | q
  · have := k2 d q; omega
  · subst q; omega
  · have := h2 e q; omega
theorem Fst.trans {c : List Ct} (h : Fst l o) (k : Fst o c) : Fst l c := by
  obtain ⟨d, h1, h2⟩ := h
  obtain ⟨e, k1, k2⟩ := k
  rcases Int.lt_trichotomy d e with q | q | q
  · exact ⟨d, by have := k2 d q; omega, fun x hx => by have := h2 x hx; have := k2 x (by omega); omega⟩
  · subst q; exact ⟨d, by omega, fun x hx => by have := h2 x hx; have := k2 x hx; omega⟩
  · exact ⟨e, by have := h2 e q; omega, fun x hx => by have := h2 x (by omega); have := k2 x hx; omega⟩
theorem od_in (l o : List Ct) : od l o = -1 ∨ od l o = 0 ∨ od l o = 1 := by
  have := dfl_in (ag l o)
  unfold od cmpN
  rcases Nat.lt_trichotomy (sm l) (sm o) with q | q | q
  · simp [q]
  · have e : ¬ sm l < sm o := by omega
    have e2 : ¬ sm o < sm l := by omega
    simpa [e, e2] using this
  · have e : ¬ sm l < sm o := by omega
    simp [e, q]
/-- l is less than o in the total order. -/
def Lt (l o : List Ct) : Prop := sm l < sm o ∨ sm l = sm o ∧ Fst l o
theorem od_neg (hl : vld 0 l = true) (ho : vld 0 o = true) : od l o = -1 ↔ Lt l o := by
  unfold od cmpN Lt
  rcases Nat.lt_trichotomy (sm l) (sm o) with q | q | q
  · simp [q]
  · have e : ¬ sm l < sm o := by omega
    have e2 : ¬ sm o < sm l := by omega
    simp [e, e2, q, ag_neg hl ho]
  · have e : ¬ sm l < sm o := by omega
    have e2 : ¬ sm l = sm o := by omega
    simp [e, e2, q]
theorem od_0 (hl : vld 0 l = true) (ho : vld 0 o = true) : od l o = 0 ↔ l = o := by
  constructor
  · intro h
    unfold od cmpN at h
    rcases Nat.lt_trichotomy (sm l) (sm o) with q | q | q
    · simp [q] at h
    · have e : ¬ sm l < sm o := by omega
      have e2 : ¬ sm o < sm l := by omega
      simp [e, e2] at h
      exact (ag_0 hl ho).1 h
    · have e : ¬ sm l < sm o := by omega
      simp [e, q] at h
  · rintro rfl
    unfold od cmpN
    simp [(ag_0 hl hl).2 rfl]
theorem Lt.no (h : Lt l o) (k : Lt o l) : False := by
  rcases h with h | ⟨h1, h2⟩ <;> rcases k with k | ⟨k1, k2⟩ <;> first | omega | exact h2.no k2
theorem Lt.trans {c : List Ct} (h : Lt l o) (k : Lt o c) : Lt l c := by
  rcases h with h | ⟨h1, h2⟩ <;> rcases k with k | ⟨k1, k2⟩
  · exact .inl (by omega)
  · exact .inl (by omega)
  · exact .inl (by omega)
  · exact .inr ⟨by omega, h2.trans k2⟩
theorem Lt.tri (hl : vld 0 l = true) (ho : vld 0 o = true) : Lt l o ∨ l = o ∨ Lt o l := by
  rcases Nat.lt_trichotomy (sm l) (sm o) with q | q | q
  · exact .inl (.inl q)
  · rcases dfl_in (ag l o) with h | h | h
    · exact .inl (.inr ⟨q, (ag_neg hl ho).1 h⟩)
    · exact .inr (.inl ((ag_0 hl ho).1 h))
    · right; right; right
      refine ⟨q.symm, ?_⟩
      have A := ag_ok l o hl ho
      have B := ag_ok o l ho hl
      rcases dfl_in (ag o l) with k | k | k
      · exact (ag_neg ho hl).1 k
      · have := (ag_0 ho hl).1 k
        subst this
        rw [(ag_0 hl hl).2 rfl] at h
        omega
      · -- both greater at the first: not so
        exfalso
        have fl : ∀ t : List P3, t.Pairwise (fun x y => x.d < y.d) → dfl t = 1 → ∃ p ∈ t, p.t < p.m ∧ ∀ q ∈ t, q.d < p.d → q.m = q.t := by
          intro t
          induction t with
          | nil => intro _ e; simp [dfl] at e
          | cons p t ih =>
            intro ha e
            rw [List.pairwise_cons] at ha
            unfold dfl at e
            split at e
            · rename_i h
              obtain ⟨x, hx, h1, h2⟩ := ih ha.2 e
              exact ⟨x, by simp [hx], h1, fun q hq hlt => by
                rcases List.mem_cons.1 hq with rfl | hq
                · exact h
                · exact h2 q hq hlt⟩
            · split at e
              · omega
              · exact ⟨p, by simp, by omega, fun q hq hlt => by
                  rcases List.mem_cons.1 hq with rfl | hq
                  · omega
                  · have := ha.1 q hq; omega⟩
        have go : ∀ {l o : List Ct} {t : List P3}, Ag 0 l o t → dfl t = 1 → Fst o l := by
          intro l o t A e
          obtain ⟨p, hp, h1, h2⟩ := fl t A.asc e
          obtain ⟨_, _, _, h4, h5, _⟩ := A.mem p hp
          refine ⟨p.d, by omega, fun e he => ?_⟩
          by_cases h : vl l e ≠ 0 ∨ vl o e ≠ 0
          · obtain ⟨q, hq, rfl⟩ := A.all e h
            obtain ⟨_, _, _, h6, h7, _⟩ := A.mem q hq
            have := h2 q hq he
            omega
          · omega
        exact (go A h).no (go B k)
  · exact .inr (.inr (.inl q))
theorem od_pos (hl : vld 0 l = true) (ho : vld 0 o = true) : od l o = 1 ↔ Lt o l := by
  constructor
  · intro h
    rcases Lt.tri hl ho with k | k | k
    · have := (od_neg hl ho).2 k; omega
    · have := (od_0 hl ho).2 k; omega
    · exact k
  · intro h
    rcases od_in l o with k | k | k
    · exact absurd ((od_neg hl ho).1 k) (fun e => e.no h)
    · have := (od_0 hl ho).1 k
      subst this
      exact absurd h (fun e => e.no e)
    · exact k
theorem od_swap (hl : vld 0 l = true) (ho : vld 0 o = true) : od o l = - od l o := by
  rcases od_in l o with k | k | k
  · rw [k, (od_pos ho hl).2 ((od_neg hl ho).1 k)]; rfl
  · rw [k, (od_0 ho hl).2 ((od_0 hl ho).1 k).symm]; rfl
  · rw [k, (od_neg ho hl).2 ((od_pos hl ho).1 k)]
theorem od_before (hl : vld 0 l = true) (ho : vld 0 o = true) (h : cp l o = 2) : od l o = -1 := by
  rw [od_neg hl ho]
  left
  have A := ag_ok l o hl ho
  obtain ⟨⟨d, h1⟩, h2⟩ := (cp_2 hl ho).1 h
  obtain ⟨e1, e2⟩ := sm_ag l o
  rw [← e1, ← e2]
  refine (sP_le fun p hp => ?_).2 ?_
  · obtain ⟨_, _, _, h4, h5, _⟩ := A.mem p hp
    have := h2 p.d
    omega
  · obtain ⟨p, hp, rfl⟩ := A.all d (by omega)
    obtain ⟨_, _, _, h4, h5, _⟩ := A.mem p hp
    exact ⟨p, hp, by omega⟩
theorem od_le_trans (hl : vld 0 l = true) (ho : vld 0 o = true) (hc : vld 0 c = true) (h : od l o ≤ 0) (k : od o c ≤ 0) : od l c ≤ 0 := by
  rcases Lt.tri hl hc with q | q | q
  · rw [(od_neg hl hc).2 q]; decide
  · rw [(od_0 hl hc).2 q]; exact Int.le_refl _
  · exfalso
    have h1 : Lt l o ∨ l = o := by
      rcases od_in l o with e | e | e
      · exact .inl ((od_neg hl ho).1 e)
      · exact .inr ((od_0 hl ho).1 e)
      · omega
    have k1 : Lt o c ∨ o = c := by
      rcases od_in o c with e | e | e
      · exact .inl ((od_neg ho hc).1 e)
      · exact .inr ((od_0 ho hc).1 e)
      · omega
    rcases h1 with h1 | rfl
    · rcases k1 with k1 | rfl
      · exact (h1.trans k1).no q
      · exact h1.no q
    · rcases k1 with k1 | rfl
      · exact k1.no q
      · exact q.no q
theorem od_lt_trans (hl : vld 0 l = true) (ho : vld 0 o = true) (hc : vld 0 c = true) (h : od l o < 0) (k : od o c ≤ 0) : od l c < 0 := by
  have h1 : Lt l o := by
    rcases od_in l o with e | e | e
    · exact (od_neg hl ho).1 e
    · omega
    · omega
  have k1 : Lt o c ∨ o = c := by
    rcases od_in o c with e | e | e
    · exact .inl ((od_neg ho hc).1 e)
    · exact .inr ((od_0 ho hc).1 e)
    · omega
  have : Lt l c := by
    rcases k1 with k1 | rfl
    · exact h1.trans k1
    · exact h1
  rw [(od_neg hl hc).2 this]; decide

/-! ### What laws ask -/
theorem mg_nil_l (ho : vld 0 o = true) : mg [] o = o := vl_ext (mg_vld rfl ho) ho fun d => by rw [mg_vl rfl ho]; simp [vl]
theorem mg_comm (hl : vld 0 l = true) (ho : vld 0 o = true) : mg l o = mg o l := vl_ext (mg_vld hl ho) (mg_vld ho hl) fun d => by rw [mg_vl hl ho, mg_vl ho hl]; omega
theorem mg_up (hl : vld 0 l = true) (ho : vld 0 o = true) (d : Int) : vl l d ≤ vl (mg l o) d ∧ vl o d ≤ vl (mg l o) d := by rw [mg_vl hl ho]; omega
/-- One more. -/
def bmp (l : List Ct) (d : Int) : List Ct := mg l [⟨d, vl l d + 1⟩]
theorem vld_one {d : Int} {n : Nat} (h1 : 1 ≤ d) (h2 : d ≤ 16) (hn : n ≠ 0) : vld 0 [⟨d, n⟩] = true := by
  rw [vld_cons]; exact ⟨⟨h1, h2, by show (0 : Int) < d; omega, hn⟩, rfl⟩
theorem bmp_vld (hl : vld 0 l = true) {d : Int} (h1 : 1 ≤ d) (h2 : d ≤ 16) : vld 0 (bmp l d) = true := mg_vld hl (vld_one h1 h2 (by omega))
theorem bmp_vl (hl : vld 0 l = true) {d : Int} (h1 : 1 ≤ d) (h2 : d ≤ 16) (e : Int) : vl (bmp l d) e = vl l e + if d = e then 1 else 0 := by
  unfold bmp
  rw [mg_vl hl (vld_one h1 h2 (by omega))]
  by_cases h : d = e
  · subst h; simp [vl]
  · simp [vl, h]
theorem vl_small {l : List Ct} {d : Int} {B : Nat} (h : ∀ c ∈ l, c.n < B) (hB : 0 < B) : vl l d < B := by
  induction l with
  | nil => exact hB
  | cons c l ih =>
    show (if c.d = d then c.n else vl l d) < B
    split
    · exact h c (by simp)
    · exact ih fun x hx => h x (by simp [hx])
theorem mg_small {B : Nat} (hl : vld 0 l = true) (ho : vld 0 o = true) (h1 : ∀ c ∈ l, c.n < B) (h2 : ∀ c ∈ o, c.n < B) : ∀ c ∈ mg l o, c.n < B := fun x hx => by
  obtain ⟨p, hp, rfl⟩ := List.mem_map.1 hx
  obtain ⟨e1, e2, _, h4, h5, h6⟩ := (ag_ok l o hl ho).mem p hp
  have hB : 0 < B := by
    cases l with
    | nil =>
      cases o with
      | nil => simp [mg, ag] at hx
      | cons c o => have := h2 c (by simp); omega
    | cons c l => have := h1 c (by simp); omega
  show max p.m p.t < B
  have := vl_small (d := p.d) h1 hB
  have := vl_small (d := p.d) h2 hB
  omega
theorem vld_len {l : List Ct} : ∀ {a : Int}, vld a l = true → (l.length : Int) ≤ max 0 (16 - max 0 a) := by
  induction l with
  | nil => intro a _; simp; omega
  | cons c l ih =>
    intro a h
    rw [vld_cons] at h
    have := ih h.2
    simp only [List.length_cons]
    omega
theorem vld_len16 (h : vld 0 l = true) : l.length ≤ 16 := by have := vld_len h; omega
end
end Go.Proofs.YtlmfjalkgapcgaaDoor

/- Package table: Changes, put and dropped, make the other table; no memory here. -/
import Derived.Test.YtekcphpeaoaaaaaTbRanks
namespace Go.Proofs.Ytekcphpeaoaaaaa
set_option linter.unusedVariables false

theorem belowN_place (k : Str) : ∀ ys : List KV, belowN k ys = place k ys
  | [] => rfl
  | y :: ys => by
    have ih := belowN_place k ys
    unfold belowN flowN at *
    rw [List.takeWhile_cons]
    unfold place
    by_cases h : lt y.1 k = true
    · rw [if_pos h, if_pos h, List.length_cons, ih]
    · rw [if_neg h, if_neg h]; rfl
theorem atKey_spec {x : KV} {r : List KV} (hs : Srt r) (hr : ∀ e ∈ r, lt e.1 x.1 = false) :
    (∃ y r', r = y :: r' ∧ y.1 = x.1 ∧ atKey x r = (if y.2 = x.2 then [] else [prOf y], r') ∧ ∀ e ∈ r', lt x.1 e.1 = true) ∨ ((∀ e ∈ r, lt x.1 e.1 = true) ∧ atKey x r = ([goneOf x], r)) := by
  cases r with
  | nil => exact .inr ⟨(fun e he => by cases he), rfl⟩
  | cons y r' =>
    obtain ⟨h1, h2⟩ := hs.cons
    unfold atKey
    simp only
    by_cases e : y.1 = x.1
    · left
      rw [if_pos e]
      exact ⟨y, r', rfl, e, rfl, fun z hz => by rw [← e]; exact h1 z hz⟩
    · right
      rw [if_neg e]
      have hy : lt x.1 y.1 = true := gt_of (hr y List.mem_cons_self) e
      refine ⟨fun z hz => ?_, rfl⟩
      rcases List.mem_cons.1 hz with rfl | hz
      · exact hy
      · exact lt_trans hy (h1 z hz)
/-- What is in the list of changes. -/
def InChg (xs ys : List KV) (p : Pr) : Prop := (p.g = false ∧ (p.k, p.v) ∈ ys ∧ (p.k, p.v) ∉ xs) ∨ (p.g = true ∧ p.v = [] ∧ (∃ v, (p.k, v) ∈ xs) ∧ ∀ v, (p.k, v) ∉ ys)
theorem mem_map_prOf (L : List KV) (p : Pr) : p ∈ L.map prOf ↔ p.g = false ∧ (p.k, p.v) ∈ L := by
  rw [List.mem_map]
  constructor
  · rintro ⟨e, he, rfl⟩
    exact ⟨rfl, he⟩
  · rintro ⟨h1, h2⟩
    refine ⟨_, h2, ?_⟩
    obtain ⟨k, v, g⟩ := p
    simp only at h1
    subst h1; rfl
theorem tri (a b : Str) : lt a b = true ∨ a = b ∨ lt b a = true := by
  by_cases h : lt a b = true
  · exact .inl h
  · by_cases e : a = b
    · exact .inr (.inl e)
    · exact .inr (.inr (gt_of (by simpa using h) e))
theorem mem_chg : ∀ (xs ys : List KV), Srt xs → Srt ys → ∀ p, p ∈ chg xs ys ↔ InChg xs ys p
  | [], ys, _, _, p => by
    unfold InChg
    rw [show chg [] ys = ys.map prOf from rfl, mem_map_prOf]
    simp
  | x :: xs, ys, hx, hy, p => by
    obtain ⟨hx1, hx2⟩ := hx.cons
    rw [chg_cons, belowN_place]
    have hA := place_below x.1 ys
    have hr := place_above (k := x.1) hy
    have hrs := hy.drop (place x.1 ys)
    have hsp : ∀ e, e ∈ ys ↔ e ∈ ys.take (place x.1 ys) ∨ e ∈ ys.drop (place x.1 ys) := fun e => by
      conv => lhs; rw [← List.take_append_drop (place x.1 ys) ys]
      exact List.mem_append
    generalize ys.take (place x.1 ys) = A at *
    generalize ys.drop (place x.1 ys) = r at *
    obtain ⟨pk, pv, pg⟩ := p
    have irr : ∀ a : Str, lt a a = true → False := fun a h => by rw [lt_irrefl] at h; cases h
    obtain ⟨x1, x2⟩ := x
    simp only at hx1 hA hr
    rcases atKey_spec (x := (x1, x2)) hrs hr with ⟨y, r', rfl, hyx, hat, hr'⟩ | ⟨hr', hat⟩
    · have ih := mem_chg xs r' hx2 (hrs.cons.2) ⟨pk, pv, pg⟩
      obtain ⟨y1, y2⟩ := y
      obtain rfl : y1 = x1 := hyx
      rw [hat, List.mem_append, List.mem_append, mem_map_prOf, ih]
      unfold InChg
      simp only [hsp, List.mem_cons, Prod.mk.injEq]
      rcases tri pk y1 with h | h | h
      · have n1 : ∀ v, (pk, v) ∉ r' := fun v hv => irr _ (lt_trans h (hr' (pk, v) hv))
        have n2 : ∀ v, (pk, v) ∉ xs := fun v hv => irr _ (lt_trans h (hx1 _ hv))
        have n3 : pk ≠ y1 := lt_ne h
        have n4 : (⟨pk, pv, pg⟩ : Pr) ∉ (if y2 = x2 then [] else [prOf (y1, y2)]) := by
          split
          · simp
          · simp [prOf, n3]
        simp [n1, n2, n3, n4]
      · subst h
        have n0 : ∀ v, (pk, v) ∉ A := fun v hv => irr _ (hA _ hv)
        have n1 : ∀ v, (pk, v) ∉ r' := fun v hv => irr pk (hr' (pk, v) hv)
        have n2 : ∀ v, (pk, v) ∉ xs := fun v hv => irr _ (hx1 _ hv)
        by_cases e : y2 = x2
        · simp [n0, n1, n2, e]
        · simp [n0, n1, n2, e, prOf]
          constructor
          · rintro ⟨rfl, rfl⟩; exact ⟨rfl, rfl, e⟩
          · rintro ⟨rfl, rfl, _⟩; exact ⟨rfl, rfl⟩
      · have n0 : ∀ v, (pk, v) ∉ A := fun v hv => irr _ (lt_trans h (hA _ hv))
        have n3 : pk ≠ y1 := (lt_ne h).symm
        have n4 : (⟨pk, pv, pg⟩ : Pr) ∉ (if y2 = x2 then [] else [prOf (y1, y2)]) := by
          split
          · simp
          · simp [prOf, n3]
        simp [n0, n3, n4]
    · have ih := mem_chg xs r hx2 hrs ⟨pk, pv, pg⟩
      rw [hat, List.mem_append, List.mem_append, mem_map_prOf, ih]
      unfold InChg
      simp only [hsp, List.mem_cons, Prod.mk.injEq]
      rcases tri pk x1 with h | h | h
      · have n1 : ∀ v, (pk, v) ∉ r := fun v hv => irr _ (lt_trans h (hr' (pk, v) hv))
        have n2 : ∀ v, (pk, v) ∉ xs := fun v hv => irr _ (lt_trans h (hx1 _ hv))
        have n3 : pk ≠ x1 := lt_ne h
        simp [n1, n2, n3, goneOf]
      · subst h
        have n0 : ∀ v, (pk, v) ∉ A := fun v hv => irr _ (hA _ hv)
        have n1 : ∀ v, (pk, v) ∉ r := fun v hv => irr pk (hr' (pk, v) hv)
        have n2 : ∀ v, (pk, v) ∉ xs := fun v hv => irr _ (hx1 _ hv)
        simp [n0, n1, n2, goneOf]
        constructor
        · rintro ⟨rfl, rfl⟩; exact ⟨rfl, rfl⟩
        · rintro ⟨rfl, rfl⟩; exact ⟨rfl, rfl⟩
      · have n0 : ∀ v, (pk, v) ∉ A := fun v hv => irr _ (lt_trans h (hA _ hv))
        have n3 : pk ≠ x1 := (lt_ne h).symm
        simp [n0, n3, goneOf]
/-- Its keys ascend. -/
theorem chg_key {xs ys : List KV} (hx : Srt xs) (hy : Srt ys) {p : Pr} (h : p ∈ chg xs ys) : (∃ v, (p.k, v) ∈ xs) ∨ ∃ v, (p.k, v) ∈ ys := by
  rcases (mem_chg xs ys hx hy p).1 h with ⟨_, h, _⟩ | ⟨_, _, h, _⟩
  · exact .inr ⟨_, h⟩
  · exact .inl h
theorem chg_srt : ∀ (xs ys : List KV), Srt xs → Srt ys → (chg xs ys).Pairwise fun a b => lt a.k b.k = true
  | [], ys, _, hy => by
    rw [show chg [] ys = ys.map prOf from rfl, List.pairwise_map]
    exact hy
  | x :: xs, ys, hx, hy => by
    obtain ⟨hx1, hx2⟩ := hx.cons
    rw [chg_cons, belowN_place]
    have hA := place_below x.1 ys
    have hr := place_above (k := x.1) hy
    have hrs := hy.drop (place x.1 ys)
    have hAs := hy.take (place x.1 ys)
    generalize ys.take (place x.1 ys) = A at *
    generalize ys.drop (place x.1 ys) = r at *
    have hAm : (A.map prOf).Pairwise fun a b => lt a.k b.k = true := by rw [List.pairwise_map]; exact hAs
    have key : ∀ (a : List Pr) (r' : List KV), Srt r' → (∀ e ∈ r', lt x.1 e.1 = true) → (a = [] ∨ ∃ p, a = [p] ∧ p.k = x.1) → (A.map prOf ++ (a ++ chg xs r')).Pairwise fun a b => lt a.k b.k = true := fun a r' h1 h2 h3 => by
      have ih := chg_srt xs r' hx2 h1
      have hgt : ∀ p ∈ chg xs r', lt x.1 p.k = true := fun p hp => by
        rcases chg_key hx2 h1 hp with ⟨v, h⟩ | ⟨v, h⟩
        · exact hx1 _ h
        · exact h2 _ h
      have hrest : (a ++ chg xs r').Pairwise fun a b => lt a.k b.k = true := by
        rcases h3 with rfl | ⟨p, rfl, hp⟩
        · exact ih
        · exact List.pairwise_cons.2 ⟨fun q hq => by rw [hp]; exact hgt q hq, ih⟩
      refine List.pairwise_append.2 ⟨hAm, hrest, fun p hp q hq => ?_⟩
      obtain ⟨e, he, rfl⟩ := List.mem_map.1 hp
      have h4 : lt e.1 x.1 = true := hA e he
      rcases List.mem_append.1 hq with hq | hq
      · rcases h3 with rfl | ⟨p, rfl, hp⟩
        · cases hq
        · rw [List.mem_singleton.1 hq, hp]; exact h4
      · exact lt_trans h4 (hgt q hq)
    rcases atKey_spec hrs hr with ⟨y, r', rfl, hyx, hat, hr'⟩ | ⟨hr', hat⟩
    · rw [hat]
      refine key _ _ hrs.cons.2 hr' ?_
      simp only
      split
      · exact .inl rfl
      · exact .inr ⟨_, rfl, hyx⟩
    · rw [hat]
      exact key _ _ hrs hr' (.inr ⟨_, rfl, rfl⟩)
theorem acts_mem : ∀ (L : List Pr) (xs : List KV), Srt xs → L.Pairwise (fun a b => a.k ≠ b.k) → ∀ e, e ∈ acts xs L ↔ (∃ p ∈ L, p.g = false ∧ e = (p.k, p.v)) ∨ (e ∈ xs ∧ ∀ p ∈ L, p.k ≠ e.1)
  | [], xs, _, _, e => by simp [acts]
  | a :: L, xs, hs, hp, e => by
    obtain ⟨h1, h2⟩ := List.pairwise_cons.1 hp
    have ih := acts_mem L (actP xs a) (actP_srt hs a) h2 e
    rw [show acts xs (a :: L) = acts (actP xs a) L from rfl, ih]
    have hm : e ∈ actP xs a ↔ (a.g = false ∧ e = (a.k, a.v)) ∨ (e ∈ xs ∧ e.1 ≠ a.k) := by
      unfold actP
      cases hg : a.g with
      | true => rw [if_pos rfl, era_mem hs]; simp
      | false => rw [if_neg (by decide), ins_mem hs]; simp
    rw [hm]
    constructor
    · rintro (⟨p, hp, h3, h4⟩ | ⟨⟨h3, h4⟩ | ⟨h3, h4⟩, h5⟩)
      · exact .inl ⟨p, List.mem_cons_of_mem _ hp, h3, h4⟩
      · exact .inl ⟨a, List.mem_cons_self, h3, h4⟩
      · exact .inr ⟨h3, fun p hp => by
          rcases List.mem_cons.1 hp with rfl | hp
          · exact h4.symm
          · exact h5 p hp⟩
    · rintro (⟨p, hp, h3, h4⟩ | ⟨h3, h4⟩)
      · rcases List.mem_cons.1 hp with rfl | hp
        · exact .inr ⟨.inl ⟨h3, h4⟩, fun q hq => by rw [h4]; exact (h1 q hq).symm⟩
        · exact .inl ⟨p, hp, h3, h4⟩
      · exact .inr ⟨.inr ⟨h3, (h4 a List.mem_cons_self).symm⟩, fun p hp => h4 p (List.mem_cons_of_mem _ hp)⟩
/-- The changes, put and dropped, make the other list. -/
theorem acts_chg {xs ys : List KV} (hx : Srt xs) (hy : Srt ys) : acts xs (chg xs ys) = ys := by
  have hd : (chg xs ys).Pairwise fun a b => a.k ≠ b.k := (chg_srt xs ys hx hy).imp fun h => lt_ne h
  refine srt_ext (acts_srt _ hx) hy fun e => ?_
  rw [acts_mem _ _ hx hd]
  obtain ⟨k, v⟩ := e
  constructor
  · rintro (⟨p, hp, h1, h2⟩ | ⟨h1, h2⟩)
    · rcases (mem_chg xs ys hx hy p).1 hp with ⟨_, h3, _⟩ | ⟨h3, _⟩
      · rw [h2]; exact h3
      · rw [h1] at h3; cases h3
    · apply Classical.byContradiction
      intro h3
      by_cases h4 : ∃ v', (k, v') ∈ ys
      · obtain ⟨v', h4⟩ := h4
        refine h2 ⟨k, v', false⟩ ((mem_chg xs ys hx hy _).2 (.inl ⟨rfl, h4, fun h5 => ?_⟩)) rfl
        have := hx.uniq h1 h5 rfl
        simp only [Prod.mk.injEq, true_and] at this
        subst this
        exact h3 h4
      · exact h2 ⟨k, [], true⟩ ((mem_chg xs ys hx hy _).2 (.inr ⟨rfl, rfl, ⟨v, h1⟩, fun v' h5 => h4 ⟨v', h5⟩⟩)) rfl
  · intro h1
    by_cases h2 : (k, v) ∈ xs
    · refine .inr ⟨h2, fun p hp e => ?_⟩
      subst e
      rcases (mem_chg xs ys hx hy p).1 hp with ⟨_, h3, h4⟩ | ⟨_, _, _, h3⟩
      · have := hy.uniq h1 h3 rfl
        simp only [Prod.mk.injEq, true_and] at this
        subst this
        exact h4 h2
      · exact h3 _ h1
    · exact .inl ⟨⟨k, v, false⟩, (mem_chg xs ys hx hy _).2 (.inl ⟨rfl, h1, h2⟩), rfl, rfl⟩
theorem chg_self {xs : List KV} (hx : Srt xs) : chg xs xs = [] := by
  apply List.eq_nil_iff_forall_not_mem.2
  intro p hp
  rcases (mem_chg xs xs hx hx p).1 hp with ⟨_, h1, h2⟩ | ⟨_, _, ⟨v, h1⟩, h2⟩
  · exact h2 h1
  · exact h2 _ h1
theorem takeWhile_true : ∀ xs : List KV, xs.takeWhile (fun _ => true) = xs
  | [] => rfl
  | x :: xs => by rw [List.takeWhile_cons, if_pos rfl, takeWhile_true xs]
/-- Everything, from the first key on. -/
theorem range_all (xs : List KV) : range [] [] (xs.length : Nat) xs = xs := by
  unfold range
  rw [place_empty]
  simp only [List.drop_zero, List.isEmpty_nil, Bool.true_or]
  rw [takeWhile_true]
  simp
end Go.Proofs.Ytekcphpeaoaaaaa

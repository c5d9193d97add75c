/- Package tree: stamps. -/
import Derived.Test.YtodnckflobefpaaTrAct
import Derived.Test.YtodnckflobefpaaTrKeep2
namespace Go.Proofs.Ytodnckflobefpaa
open Go.RowKit Go.Maps
set_option linter.unusedVariables false

theorem Idle.begin {s : St} (h : Idle s) (ps : List Str) : (s.begin_ ps).1 = s ∧ ((s.begin_ ps).2 = 0 ∨ (s.begin_ ps).2 = 2) := by
  unfold St.begin_
  split
  · rw [burn_idle h, h.off]; exact ⟨rfl, .inl rfl⟩
  · exact ⟨rfl, .inr rfl⟩
theorem Idle.find {s : St} (h : Idle s) (p : Str) (o : List Str) : ∃ r er, s.find p o = (s, r, er) ∧ ∀ f, r = some f → look s.files p = some f := by
  rw [find_eq, (h.begin (o ++ [p])).1]
  exact ⟨_, _, rfl, fun f e => by
    split at e
    · exact e
    · cases e⟩
/-- Every stamp is at most the clock, and no two files have the same. -/
structure Stm (s : St) : Prop where
  le : ∀ i, i < s.fil.length → (s.at_ i).st ≤ s.clock
  inj : ∀ i j, i < s.fil.length → j < s.fil.length → (s.at_ i).st = (s.at_ j).st → i = j
/-- A file has its bytes as long as it has its stamp. -/
structure Step (s s' : St) : Prop where
  ck : s.clock ≤ s'.clock
  len : s.fil.length ≤ s'.fil.length
  at_ : ∀ i, i < s'.fil.length → (i < s.fil.length ∧ (s'.at_ i).st = (s.at_ i).st ∧ (s'.at_ i).now = (s.at_ i).now) ∨ s.clock < (s'.at_ i).st
theorem Step.refl (s : St) : Step s s := ⟨Nat.le_refl _, Nat.le_refl _, fun i hi => .inl ⟨hi, rfl, rfl⟩⟩
theorem Step.trans {s s1 s2 : St} (h : Step s s1) (k : Step s1 s2) : Step s s2 := ⟨Nat.le_trans h.ck k.ck, Nat.le_trans h.len k.len, fun i hi => by
  rcases k.at_ i hi with ⟨a, b, c⟩ | a
  · rcases h.at_ i a with ⟨a2, b2, c2⟩ | a2
    · exact .inl ⟨a2, b.trans b2, c.trans c2⟩
    · exact .inr (by rw [b]; exact a2)
  · exact .inr (Nat.lt_of_le_of_lt h.ck a)⟩
/-- Both at once. -/
structure Goes (s s' : St) : Prop where
  step : Step s s'
  stm : Stm s'
theorem Goes.trans {s s1 s2 : St} (h : Goes s s1) (k : Goes s1 s2) : Goes s s2 := ⟨h.step.trans k.step, k.stm⟩
theorem Goes.refl {s : St} (h : Stm s) : Goes s s := ⟨Step.refl s, h⟩
/-- No file's bytes or stamp change. -/
theorem goes_same {s s' : St} (h : Stm s) (hl : s'.fil.length = s.fil.length) (ha : ∀ i, (s'.at_ i).st = (s.at_ i).st ∧ (s'.at_ i).now = (s.at_ i).now) (hc : s.clock ≤ s'.clock) : Goes s s' :=
  ⟨⟨hc, Nat.le_of_eq hl.symm, fun i hi => .inl ⟨by omega, (ha i).1, (ha i).2⟩⟩, ⟨fun i hi => by rw [(ha i).1]; exact Nat.le_trans (h.le i (by omega)) hc, fun i j hi hj e => by rw [(ha i).1, (ha j).1] at e; exact h.inj i j (by omega) (by omega) e⟩⟩
theorem goes_fil {s s' : St} (h : Stm s) (hf : s'.fil = s.fil) (hc : s.clock ≤ s'.clock) : Goes s s' := by
  have ha : ∀ i, s'.at_ i = s.at_ i := fun i => by unfold St.at_; rw [hf]
  exact goes_same h (by rw [hf]) (fun i => by rw [ha]; exact ⟨rfl, rfl⟩) hc
theorem goes_keep {s s' : St} (h : Stm s) (f : Nat) (x : Fil) (hf : s'.fil = s.fil.set f x) (h1 : x.st = (s.at_ f).st) (h2 : x.now = (s.at_ f).now) (hc : s.clock ≤ s'.clock) : Goes s s' := by
  refine goes_same h (by rw [hf, List.length_set]) (fun i => ?_) hc
  by_cases hl : f < s.fil.length
  · rw [set_at s s' f x hf hl i]
    split
    · rename_i e; rw [e]; exact ⟨h1, h2⟩
    · exact ⟨rfl, rfl⟩
  · have : s'.at_ i = s.at_ i := by unfold St.at_; rw [hf, List.set_eq_of_length_le (by omega)]
    rw [this]; exact ⟨rfl, rfl⟩
/-- One file is given a stamp that is new. -/
theorem goes_new {s s' : St} (h : Stm s) (f : Nat) (x : Fil) (hf : s'.fil = s.fil.set f x) (h1 : x.st = s.clock + 1) (hc : s'.clock = s.clock + 1) : Goes s s' := by
  by_cases hl : f < s.fil.length
  · have ha := set_at s s' f x hf hl
    have hlen : s'.fil.length = s.fil.length := by rw [hf, List.length_set]
    refine ⟨⟨by omega, by omega, fun i hi => ?_⟩, ⟨fun i hi => ?_, fun i j hi hj e => ?_⟩⟩
    · rw [ha]
      split
      · exact .inr (by omega)
      · exact .inl ⟨by omega, rfl, rfl⟩
    · rw [ha]
      split
      · omega
      · have := h.le i (by omega); omega
    · rw [ha, ha] at e
      have li := h.le i (by omega)
      have lj := h.le j (by omega)
      split at e <;> split at e
      · omega
      · omega
      · omega
      · exact h.inj i j (by omega) (by omega) e
  · exact goes_fil h (by rw [hf, List.set_eq_of_length_le (by omega)]) (by omega)
/-- A file is made. -/
theorem goes_make {s s' : St} (h : Stm s) (x : Fil) (hf : s'.fil = s.fil ++ [x]) (h1 : x.st = s.clock + 1) (hc : s'.clock = s.clock + 1) : Goes s s' := by
  have hlen : s'.fil.length = s.fil.length + 1 := by rw [hf]; simp
  have ha : ∀ i, i < s.fil.length → s'.at_ i = s.at_ i := fun i hi => by unfold St.at_; rw [hf]; simp [List.getD, List.getElem?_append_left hi]
  have hx : s'.at_ s.fil.length = x := by unfold St.at_; rw [hf]; simp [List.getD]
  refine ⟨⟨by omega, by omega, fun i hi => ?_⟩, ⟨fun i hi => ?_, fun i j hi hj e => ?_⟩⟩
  · rcases Nat.lt_or_ge i s.fil.length with hlt | hge
    · exact .inl ⟨hlt, by rw [ha i hlt], by rw [ha i hlt]⟩
    · obtain rfl : i = s.fil.length := by omega
      exact .inr (by rw [hx]; omega)
  · rcases Nat.lt_or_ge i s.fil.length with hlt | hge
    · rw [ha i hlt]; have := h.le i hlt; omega
    · obtain rfl : i = s.fil.length := by omega
      rw [hx]; omega
  · rcases Nat.lt_or_ge i s.fil.length with hi1 | hi1 <;> rcases Nat.lt_or_ge j s.fil.length with hj1 | hj1
    · rw [ha i hi1, ha j hj1] at e; exact h.inj i j hi1 hj1 e
    · obtain rfl : j = s.fil.length := by omega
      rw [ha i hi1, hx] at e; have := h.le i hi1; omega
    · obtain rfl : i = s.fil.length := by omega
      rw [ha j hj1, hx] at e; have := h.le j hj1; omega
    · omega
theorem restores_goes (before : Dir) (parts : List Int) : ∀ (l : Dir) (i : Nat) (s : St), Stm s → Goes s (St.restores before parts i l s)
  | [], _, s, h => Goes.refl h
  | (p, f) :: r, i, s, h => by
    have g1 : Goes s (s.restore p f (look before p) (partAt parts i)) := by
      cases e : keeps s f (look before p) (partAt parts i) with
      | true =>
        rw [restore_yes s p f _ _ e]
        unfold keeps at e
        simp only [Bool.and_eq_true, decide_eq_true_eq, beq_iff_eq] at e
        exact goes_keep h f _ rfl rfl e.2 (Nat.le_refl _)
      | false =>
        rw [restore_no s p f _ _ e]
        exact goes_new h f _ rfl rfl rfl
    exact g1.trans (restores_goes before parts r (i + 1) _ g1.stm)
theorem crash_goes {s : St} (h : Stm s) (keep : Int) (parts : List Int) : Goes s (s.crash keep parts) := by
  rw [crash_eq]
  have g1 : Goes s (s.c3 keep) := goes_fil h rfl (Nat.le_succ _)
  have g2 := restores_goes s.files parts (s.c3 keep).files 0 (s.c3 keep) g1.stm
  exact (g1.trans g2).trans (goes_fil g2.stm rfl (Nat.le_refl _))

theorem free_fil (s : St) (p : Str) : (s.free p).fil = s.fil ∧ (s.free p).clock = s.clock ∧ (s.free p).off = s.off ∧ (s.free p).fuse = s.fuse := by
  unfold St.free
  split <;> exact ⟨rfl, rfl, rfl, rfl⟩
/-- What a call that is no fuse does. -/
theorem act_goes {s : St} (hi : Idle s) (h : Stm s) (a : Ac) (b : Str) (ps : List Int) (hk : pickOf a.K 10 ≠ 7) : Idle (s.act a b ps).1 ∧ Goes s (s.act a b ps).1 := by
  unfold St.act
  rcases ten (pickOf_lo a.K 10 (by omega)) (pickOf_hi a.K 10 (by omega)) with e | e | e | e | e | e | e | e | e | e <;> rw [e]
  · show Idle (s.make a.p).1 ∧ Goes s (s.make a.p).1
    have hb := (hi.begin [a.p]).1
    unfold St.make
    generalize s.begin_ [a.p] = r at *
    obtain ⟨s1, er⟩ := r
    simp only at hb ⊢
    subst hb
    split
    · cases look s1.files a.p with
      | some f => exact ⟨hi, Goes.refl h⟩
      | none => exact ⟨⟨hi.off, hi.fuse⟩, goes_make h ⟨[], [], s1.clock + 1⟩ rfl rfl rfl⟩
    · exact ⟨hi, Goes.refl h⟩
  · show Idle (s.write a.p b).1 ∧ Goes s (s.write a.p b).1
    obtain ⟨r, er, hr, _⟩ := hi.find a.p []
    unfold St.write
    rw [hr]
    cases r with
    | none => exact ⟨hi, Goes.refl h⟩
    | some f =>
      simp only
      split
      · exact ⟨hi, Goes.refl h⟩
      · exact ⟨⟨hi.off, hi.fuse⟩, goes_new h f _ rfl rfl rfl⟩
  · show Idle (s.append_ a.p b).1 ∧ Goes s (s.append_ a.p b).1
    obtain ⟨r, er, hr, _⟩ := hi.find a.p []
    unfold St.append_
    rw [hr]
    cases r with
    | none => exact ⟨hi, Goes.refl h⟩
    | some f =>
      simp only
      split
      · exact ⟨hi, Goes.refl h⟩
      · exact ⟨⟨hi.off, hi.fuse⟩, goes_new h f _ rfl rfl rfl⟩
  · show Idle (s.sync a.p).1 ∧ Goes s (s.sync a.p).1
    obtain ⟨r, er, hr, _⟩ := hi.find a.p []
    unfold St.sync
    rw [hr]
    cases r with
    | none => exact ⟨hi, Goes.refl h⟩
    | some f => exact ⟨⟨hi.off, hi.fuse⟩, goes_keep h f _ rfl rfl rfl (Nat.le_refl _)⟩
  · show Idle s.syncPaths.1 ∧ Goes s s.syncPaths.1
    rw [syncPaths_idle hi]
    exact ⟨⟨hi.off, hi.fuse⟩, goes_fil h rfl (Nat.le_refl _)⟩
  · show Idle (s.rename a.p a.q).1 ∧ Goes s (s.rename a.p a.q).1
    obtain ⟨r, er, hr, _⟩ := hi.find a.p [a.q]
    unfold St.rename
    rw [hr]
    cases r with
    | none => exact ⟨hi, Goes.refl h⟩
    | some f =>
      simp only
      obtain ⟨f1, f2, f3, f4⟩ := free_fil s a.q
      split
      · exact ⟨hi, Goes.refl h⟩
      · exact ⟨⟨f3.trans hi.off, f4.trans hi.fuse⟩, goes_fil h f1 (by show s.clock ≤ (s.free a.q).clock + 1; omega)⟩
  · show Idle (s.remove a.p).1 ∧ Goes s (s.remove a.p).1
    obtain ⟨r, er, hr, _⟩ := hi.find a.p []
    unfold St.remove
    rw [hr]
    cases r with
    | none => exact ⟨hi, Goes.refl h⟩
    | some f =>
      obtain ⟨f1, f2, f3, f4⟩ := free_fil s a.p
      exact ⟨⟨f3.trans hi.off, f4.trans hi.fuse⟩, goes_fil h f1 (by show s.clock ≤ (s.free a.p).clock + 1; omega)⟩
  · exact absurd e hk
  · exact ⟨(after_crash s a.N ps).idle, crash_goes h a.N ps⟩
  · show Idle (s.read a.p).1 ∧ Goes s (s.read a.p).1
    obtain ⟨r, er, hr, _⟩ := hi.find a.p []
    unfold St.read
    rw [hr]
    cases r <;> exact ⟨hi, Goes.refl h⟩

/-- What the law has seen of the path: whether it was there, its stamp, its bytes. -/
def Seen (s : St) (p : Str) (was : Str) (stamp : Nat) (there : Bool) : Prop := there = true → (okP p = true → ∃ f, f < s.fil.length ∧ (s.at_ f).st = stamp ∧ (s.at_ f).now = was) ∧ (okP p = false → was = [])
theorem read_any_idle {s : St} (hi : Idle s) (p : Str) : (s.read p).1 = s ∧ (okP p = false → (s.read p).2.1 = []) ∧ (okP p = true → ∀ f, look s.files p = some f → (s.read p).2.1 = (s.at_ f).now) := by
  refine ⟨?_, ?_, ?_⟩
  · obtain ⟨r, er, hr, _⟩ := hi.find p []
    unfold St.read
    rw [hr]
    cases r <;> rfl
  · intro hp
    unfold St.read St.find St.begin_
    rw [if_neg (by simp [hp])]
    simp only
    rw [if_neg (by decide)]
  · intro hp f hl
    rw [read_idle hi p hp hl]
/-- What the law tests, and what it has seen then. -/
theorem seen_next {s s' : St} (p : Str) (was : Str) (stamp : Nat) (there : Bool) (h : Seen s p was stamp there) (hs : Stm s) (hi : Idle s') (hg : Goes s s') (hfs : ∀ e ∈ s'.files, e.2 < s'.fil.length) :
    ((s'.stat p).2.2 = true → there = true → (s'.stat p).2.1 = stamp → (s'.read p).2.1 = was) ∧ (s'.stat p).2.1 ≤ s'.clock ∧ Seen s' p (s'.read p).2.1 (s'.stat p).2.1 (s'.stat p).2.2 := by
  obtain ⟨r1, r2, r3⟩ := read_any_idle hi p
  cases hl : look s'.files p with
  | none =>
    have e1 : s'.stat p = (0, 0, false) := by unfold St.stat; rw [hl]
    rw [e1]
    exact ⟨(fun h => by cases h), Nat.zero_le _, (fun h => by cases h)⟩
  | some f =>
    have hf : f < s'.fil.length := hfs _ (look_mem hl)
    have e1 : s'.stat p = (((s'.at_ f).now.length : Int), (s'.at_ f).st, true) := by unfold St.stat; rw [hl]
    rw [e1]
    refine ⟨fun _ ht he => ?_, hg.stm.le f hf, fun _ => ⟨fun hp => ⟨f, hf, rfl, (r3 hp f hl).symm⟩, r2⟩⟩
    obtain ⟨a1, a2⟩ := h ht
    cases hp : okP p with
    | false => rw [r2 hp, a2 hp]
    | true =>
      obtain ⟨g, hg1, hg2, hg3⟩ := a1 hp
      rw [r3 hp f hl]
      simp only at he
      have hle := hs.le g hg1
      rcases hg.step.at_ f hf with ⟨b1, b2, b3⟩ | b1
      · have : f = g := hs.inj f g b1 hg1 (by rw [← b2, he, hg2])
        rw [b3, this, hg3]
      · omega
end Go.Proofs.Ytodnckflobefpaa

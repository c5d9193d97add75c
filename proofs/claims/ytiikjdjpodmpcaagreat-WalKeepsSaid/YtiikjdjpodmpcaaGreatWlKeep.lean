/- Package wal, as functions of a tree's state: what a fuse and a crash leave of a log, and what is opened then. No function of the program is named here. -/
import Derived.Test.YtiikjdjpodmpcaaGreatWlRun
namespace Go.Proofs.YtiikjdjpodmpcaaGreat
open Go.Maps
set_option linter.unusedVariables false

/-! ### A tree with a fuse, or that is off -/
def St.wt (s : St) (F : Int) (o : Bool) : St := { s with fuse := F, off := o }
theorem wt_idle {s : St} (hi : Idle s) : s.wt (-1) false = s := by
  obtain ⟨r, u, c, f, sa, ch, fu, o, fi⟩ := s
  obtain ⟨h1, h2⟩ := hi
  simp only at h1 h2
  subst h1 h2
  rfl
theorem idle_begin {s : St} (hi : Idle s) (ps : List Str) : s.begin_ ps = (s, if ps.all okP = true then 0 else 2) := by
  unfold St.begin_
  split
  · rw [burn_idle hi, hi.off]; rfl
  · rfl
theorem begin_wt {s : St} (hi : Idle s) {F : Int} (hF : -1 ≤ F) (ps : List Str) : (s.wt F false).begin_ ps = (s.wt (-1) true, 11) ∨ ∃ F', -1 ≤ F' ∧ (s.wt F false).begin_ ps = (s.wt F' false, (s.begin_ ps).2) := by
  rw [idle_begin hi]
  unfold St.begin_
  by_cases hp : ps.all okP = true
  · rw [if_pos hp, if_pos hp]
    by_cases h0 : F = 0
    · subst h0
      left
      have e : (s.wt 0 false).burn = s.wt (-1) true := by unfold St.burn St.wt; simp
      rw [e]
      rfl
    · right
      have e : (s.wt F false).burn = s.wt (max (F - 1) (-1)) false := by unfold St.burn St.wt; simp [h0]
      rw [e]
      exact ⟨_, by omega, rfl⟩
  · rw [if_neg hp, if_neg hp]
    exact .inr ⟨F, hF, rfl⟩
theorem idle_find {s : St} (hi : Idle s) (p : Str) (o : List Str) : ∃ r e, s.find p o = (s, r, e) := by
  unfold St.find
  rw [idle_begin hi]
  by_cases hp : (o ++ [p]).all okP = true
  · rw [if_pos hp]
    simp only [↓reduceIte]
    cases look s.files p <;> exact ⟨_, _, rfl⟩
  · rw [if_neg hp]
    exact ⟨_, _, rfl⟩
theorem find_wt {s : St} (hi : Idle s) {F : Int} (hF : -1 ≤ F) (p : Str) (o : List Str) : (s.wt F false).find p o = (s.wt (-1) true, none, 11) ∨ ∃ F', -1 ≤ F' ∧ (s.wt F false).find p o = (s.wt F' false, (s.find p o).2) := by
  unfold St.find
  rcases begin_wt hi hF (o ++ [p]) with h | ⟨F', h1, h⟩
  · rw [h]
    left
    rfl
  · rw [h, idle_begin hi]
    refine .inr ⟨F', h1, ?_⟩
    have hfl : (s.wt F' false).files = s.files := rfl
    by_cases hp : (o ++ [p]).all okP = true
    · rw [if_pos hp]
      simp only [↓reduceIte, hfl]
      cases look s.files p <;> rfl
    · rw [if_neg hp]
      rfl
/-- An operation of a tree that is on: with a fuse it does the same, or the fuse blows. -/
def Lift (op : Stp) : Prop := ∀ s, Idle s → Idle (op s).1 ∧ ∀ F : Int, -1 ≤ F → op (s.wt F false) = (s.wt (-1) true, 11) ∨ ∃ F', -1 ≤ F' ∧ op (s.wt F false) = ((op s).1.wt F' false, (op s).2)
theorem lift_make (p : Str) : Lift fun s => s.make p := fun s hi => by
  show Idle (s.make p).1 ∧ ∀ F : Int, -1 ≤ F → (s.wt F false).make p = (s.wt (-1) true, 11) ∨ ∃ F', -1 ≤ F' ∧ (s.wt F false).make p = ((s.make p).1.wt F' false, (s.make p).2)
  have hb := idle_begin hi [p]
  refine ⟨?_, fun F hF => ?_⟩
  · unfold St.make
    rw [hb]
    by_cases hp : [p].all okP = true
    · rw [if_pos hp]
      simp only [↓reduceIte]
      cases look s.files p
      · exact ⟨hi.off, hi.fuse⟩
      · exact hi
    · rw [if_neg hp]
      exact hi
  · unfold St.make
    rcases begin_wt hi hF [p] with h | ⟨F', h1, h⟩
    · rw [h]
      left
      rfl
    · rw [h, hb]
      refine .inr ⟨F', h1, ?_⟩
      have hfl : (s.wt F' false).files = s.files := rfl
      by_cases hp : [p].all okP = true
      · rw [if_pos hp]
        simp only [↓reduceIte, hfl]
        cases look s.files p <;> rfl
      · rw [if_neg hp]
        rfl
theorem lift_write (p b : Str) : Lift fun s => s.write p b := fun s hi => by
  show Idle (s.write p b).1 ∧ ∀ F : Int, -1 ≤ F → (s.wt F false).write p b = (s.wt (-1) true, 11) ∨ ∃ F', -1 ≤ F' ∧ (s.wt F false).write p b = ((s.write p b).1.wt F' false, (s.write p b).2)
  obtain ⟨r, e, hb⟩ := idle_find hi p []
  refine ⟨?_, fun F hF => ?_⟩
  · unfold St.write
    rw [hb]
    cases r with
    | none => exact hi
    | some f =>
      simp only
      split
      · exact hi
      · exact ⟨hi.off, hi.fuse⟩
  · unfold St.write
    rcases find_wt hi hF p [] with h | ⟨F', h1, h⟩
    · rw [h]
      left
      rfl
    · rw [h, hb]
      refine .inr ⟨F', h1, ?_⟩
      cases r with
      | none => rfl
      | some f =>
        show (if (b.length : Int) > s.left_ (s.used - ((s.at_ f).now.length : Int)) then _ else _) = _
        simp only
        split <;> rfl
theorem lift_append (p b : Str) : Lift fun s => s.append_ p b := fun s hi => by
  show Idle (s.append_ p b).1 ∧ ∀ F : Int, -1 ≤ F → (s.wt F false).append_ p b = (s.wt (-1) true, 11) ∨ ∃ F', -1 ≤ F' ∧ (s.wt F false).append_ p b = ((s.append_ p b).1.wt F' false, (s.append_ p b).2)
  obtain ⟨r, e, hb⟩ := idle_find hi p []
  refine ⟨?_, fun F hF => ?_⟩
  · unfold St.append_
    rw [hb]
    cases r with
    | none => exact hi
    | some f =>
      simp only
      split
      · exact hi
      · exact ⟨hi.off, hi.fuse⟩
  · unfold St.append_
    rcases find_wt hi hF p [] with h | ⟨F', h1, h⟩
    · rw [h]
      left
      rfl
    · rw [h, hb]
      refine .inr ⟨F', h1, ?_⟩
      cases r with
      | none => rfl
      | some f =>
        show (if (b.length : Int) > s.left_ s.used then _ else _) = _
        simp only
        split <;> rfl
theorem lift_sync (p : Str) : Lift fun s => s.sync p := fun s hi => by
  show Idle (s.sync p).1 ∧ ∀ F : Int, -1 ≤ F → (s.wt F false).sync p = (s.wt (-1) true, 11) ∨ ∃ F', -1 ≤ F' ∧ (s.wt F false).sync p = ((s.sync p).1.wt F' false, (s.sync p).2)
  obtain ⟨r, e, hb⟩ := idle_find hi p []
  refine ⟨?_, fun F hF => ?_⟩
  · unfold St.sync
    rw [hb]
    cases r with
    | none => exact hi
    | some f => exact ⟨hi.off, hi.fuse⟩
  · unfold St.sync
    rcases find_wt hi hF p [] with h | ⟨F', h1, h⟩
    · rw [h]
      left
      rfl
    · rw [h, hb]
      refine .inr ⟨F', h1, ?_⟩
      cases r <;> rfl
theorem idle_free {s : St} (hi : Idle s) (p : Str) : Idle (s.free p) := by
  unfold St.free
  split
  · exact hi
  · exact ⟨hi.off, hi.fuse⟩
theorem free_wt (s : St) (F : Int) (o : Bool) (p : Str) : (s.wt F o).free p = (s.free p).wt F o := by
  have hfl : (s.wt F o).files = s.files := rfl
  unfold St.free
  rw [hfl]
  cases look s.files p <;> rfl
theorem lift_rename (p q : Str) : Lift fun s => s.rename p q := fun s hi => by
  show Idle (s.rename p q).1 ∧ ∀ F : Int, -1 ≤ F → (s.wt F false).rename p q = (s.wt (-1) true, 11) ∨ ∃ F', -1 ≤ F' ∧ (s.wt F false).rename p q = ((s.rename p q).1.wt F' false, (s.rename p q).2)
  obtain ⟨r, e, hb⟩ := idle_find hi p [q]
  have hf := idle_free hi q
  refine ⟨?_, fun F hF => ?_⟩
  · unfold St.rename
    rw [hb]
    cases r with
    | none => exact hi
    | some f =>
      simp only
      split
      · exact hi
      · exact ⟨hf.off, hf.fuse⟩
  · unfold St.rename
    rcases find_wt hi hF p [q] with h | ⟨F', h1, h⟩
    · rw [h]
      left
      rfl
    · rw [h, hb]
      refine .inr ⟨F', h1, ?_⟩
      cases r with
      | none => rfl
      | some f =>
        simp only
        rw [free_wt]
        split <;> rfl
theorem lift_remove (p : Str) : Lift fun s => s.remove p := fun s hi => by
  show Idle (s.remove p).1 ∧ ∀ F : Int, -1 ≤ F → (s.wt F false).remove p = (s.wt (-1) true, 11) ∨ ∃ F', -1 ≤ F' ∧ (s.wt F false).remove p = ((s.remove p).1.wt F' false, (s.remove p).2)
  obtain ⟨r, e, hb⟩ := idle_find hi p []
  have hf := idle_free hi p
  refine ⟨?_, fun F hF => ?_⟩
  · unfold St.remove
    rw [hb]
    cases r with
    | none => exact hi
    | some f => exact ⟨hf.off, hf.fuse⟩
  · unfold St.remove
    rcases find_wt hi hF p [] with h | ⟨F', h1, h⟩
    · rw [h]
      left
      rfl
    · rw [h, hb]
      refine .inr ⟨F', h1, ?_⟩
      cases r with
      | none => rfl
      | some f =>
        simp only
        rw [free_wt]
        rfl
theorem lift_syncPaths : Lift fun s => s.syncPaths := fun s hi => by
  show Idle (s.syncPaths).1 ∧ ∀ F : Int, -1 ≤ F → (s.wt F false).syncPaths = (s.wt (-1) true, 11) ∨ ∃ F', -1 ≤ F' ∧ (s.wt F false).syncPaths = ((s.syncPaths).1.wt F' false, (s.syncPaths).2)
  have hb := idle_begin hi []
  refine ⟨?_, fun F hF => ?_⟩
  · unfold St.syncPaths
    rw [hb]
    exact ⟨hi.off, hi.fuse⟩
  · unfold St.syncPaths
    rcases begin_wt hi hF [] with h | ⟨F', h1, h⟩
    · rw [h]
      left
      rfl
    · rw [h, hb]
      exact .inr ⟨F', h1, rfl⟩
theorem lift_clean (q : Str) : Lift (cleanS q) := fun s hi => by
  have hr := lift_remove q s hi
  unfold cleanS
  refine ⟨?_, fun F hF => ?_⟩
  · split
    · exact hr.1
    · exact hi
  · have : (s.wt F false).stat q = s.stat q := rfl
    rw [this]
    split
    · exact hr.2 F hF
    · exact .inr ⟨F, hF, rfl⟩
theorem doS_lift : ∀ (l : List Stp), (∀ op ∈ l, Lift op) → ∀ (s : St), Idle s → ∀ F : Int, -1 ≤ F →
    (∃ i, i < l.length ∧ doS l (s.wt F false) 0 = ((doS (l.take i) s 0).1.wt (-1) true, 11)) ∨ (∃ F', -1 ≤ F' ∧ doS l (s.wt F false) 0 = ((doS l s 0).1.wt F' false, (doS l s 0).2))
  | [], _, s, hi, F, hF => .inr ⟨F, hF, rfl⟩
  | f :: r, hl, s, hi, F, hF => by
    obtain ⟨h1, h2⟩ := hl f List.mem_cons_self s hi
    rw [doS_cons, if_pos rfl]
    rcases h2 F hF with h | ⟨F', hF', h⟩
    · left
      refine ⟨0, by simp, ?_⟩
      rw [h]
      simp only
      rw [doS_err _ _ _ (by decide)]
      rfl
    · rw [h]
      simp only
      by_cases h0 : (f s).2 = 0
      · rw [h0, doS_cons, if_pos rfl, h0]
        rcases doS_lift r (fun op ho => hl op (List.mem_cons_of_mem _ ho)) (f s).1 h1 F' hF' with ⟨i, hi2, h3⟩ | h3
        · left
          refine ⟨i + 1, by simp; omega, ?_⟩
          rw [h3, List.take_succ_cons, doS_cons, if_pos rfl, h0]
        · exact .inr h3
      · right
        refine ⟨F', hF', ?_⟩
        rw [doS_err _ _ _ h0, doS_cons, if_pos rfl, doS_err _ _ _ h0]

/-! ### A crash -/
theorem restore_wt (s : St) (F : Int) (o : Bool) (p : Str) (f : Nat) (was : Option Nat) (part : Int) : (s.wt F o).restore p f was part = (s.restore p f was part).wt F o := by
  unfold St.restore
  show (if was = some f ∧ ((s.at_ f).rem part) = (s.at_ f).now then _ else _) = _
  simp only
  split <;> rfl
theorem restores_wt (before : Dir) (parts : List Int) (F : Int) (o : Bool) : ∀ (l : Dir) (i : Nat) (s : St), St.restores before parts i l (s.wt F o) = (St.restores before parts i l s).wt F o
  | [], _, _ => rfl
  | (p, f) :: r, i, s => by
    show St.restores before parts (i + 1) r ((s.wt F o).restore p f (look before p) (partAt parts i)) = (St.restores before parts (i + 1) r (s.restore p f (look before p) (partAt parts i))).wt F o
    rw [restore_wt, restores_wt before parts F o r]
theorem crash_wt (s : St) (F : Int) (o : Bool) (keep : Int) (parts : List Int) : (s.wt F o).crash keep parts = s.crash keep parts := by
  rw [crash_eq, crash_eq]
  have h : (s.wt F o).c3 keep = (s.c3 keep).wt F o := rfl
  rw [h]
  show { St.restores s.files parts 0 ((s.c3 keep).files) ((s.c3 keep).wt F o) with fuse := -1, off := false } = _
  rw [restores_wt]
  rfl
theorem restore_at (s : St) (p : Str) (f : Nat) (was : Option Nat) (part : Int) (hf : f < s.fil.length) : ((s.restore p f was part).at_ f).now = (s.at_ f).rem part ∧ ((s.restore p f was part).at_ f).sf = (s.at_ f).rem part ∧ (∀ j, j ≠ f → (s.restore p f was part).at_ j = s.at_ j) ∧ (s.restore p f was part).used = s.used + (((s.at_ f).rem part).length : Int) ∧ (s.restore p f was part).fil.length = s.fil.length := by
  obtain ⟨st, e1, e2, _⟩ := restore_facts s p f was part
  have hat := fun j => set_at s _ f _ e1 hf j
  exact ⟨by rw [hat, if_pos rfl], by rw [hat, if_pos rfl], fun j hj => by rw [hat, if_neg hj], e2, by rw [e1, List.length_set]⟩
theorem crash_one {s : St} {keep : Int} (parts : List Int) {p : Str} {f : Nat} (hk : kept s keep = [(p, f)]) (hf : f < s.fil.length) :
    ((s.crash keep parts).at_ f).now = (s.at_ f).rem (partAt parts 0) ∧ (s.crash keep parts).used = (((s.at_ f).rem (partAt parts 0)).length : Int) := by
  have hk2 : (s.c3 keep).files = [(p, f)] := hk
  obtain ⟨a, b, c, d, e⟩ := restore_at (s.c3 keep) p f (look s.files p) (partAt parts 0) hf
  rw [crash_eq, hk2]
  refine ⟨a, ?_⟩
  show ((s.c3 keep).restore p f (look s.files p) (partAt parts 0)).used = _
  rw [d]
  show (0 : Int) + _ = _
  rw [Int.zero_add]
  rfl
theorem crash_two {s : St} {keep : Int} (parts : List Int) {p q : Str} {f g : Nat} (hk : kept s keep = [(q, g), (p, f)]) (hf : f < s.fil.length) (hg : g < s.fil.length) (hne : g ≠ f) :
    ((s.crash keep parts).at_ f).now = (s.at_ f).rem (partAt parts 1) ∧ ((s.crash keep parts).at_ g).now = (s.at_ g).rem (partAt parts 0) ∧ (s.crash keep parts).used = (((s.at_ g).rem (partAt parts 0)).length : Int) + (((s.at_ f).rem (partAt parts 1)).length : Int) := by
  have hk2 : (s.c3 keep).files = [(q, g), (p, f)] := hk
  obtain ⟨a, b, c, d, e⟩ := restore_at (s.c3 keep) q g (look s.files q) (partAt parts 0) hg
  obtain ⟨a2, b2, c2, d2, e2⟩ := restore_at ((s.c3 keep).restore q g (look s.files q) (partAt parts 0)) p f (look s.files p) (partAt parts 1) (by rw [e]; exact hf)
  have hat : (s.c3 keep).at_ f = s.at_ f := rfl
  have hatg : (s.c3 keep).at_ g = s.at_ g := rfl
  have hf2 : ((s.c3 keep).restore q g (look s.files q) (partAt parts 0)).at_ f = s.at_ f := (c f (fun e => hne e.symm)).trans hat
  rw [hf2] at a2 d2
  rw [crash_eq, hk2]
  refine ⟨a2, ?_, ?_⟩
  · show ((((s.c3 keep).restore q g (look s.files q) (partAt parts 0)).restore p f (look s.files p) (partAt parts 1)).at_ g).now = _
    rw [c2 g hne, a]
    rfl
  · show (((s.c3 keep).restore q g (look s.files q) (partAt parts 0)).restore p f (look s.files p) (partAt parts 1)).used = _
    rw [d2, d]
    show (0 : Int) + _ + _ = _
    rw [Int.zero_add]
    rfl
theorem rem_cut (xa xb : Str) (st : Nat) (part : Int) : ∃ n, (⟨xa ++ xb, xa, st⟩ : Fil).rem part = xa ++ xb.take n := by
  unfold Fil.rem
  have : xa.isPrefixOf (xa ++ xb) = true := by simp
  rw [if_pos this]
  refine ⟨(upTo part (((xa ++ xb).length : Int) - (xa.length : Int))).toNat, ?_⟩
  simp only
  rw [List.take_append, List.take_of_length_le (by omega)]
  congr 2
  omega
theorem rem_le (x : Fil) (part : Int) : (x.rem part).length ≤ max x.now.length x.sf.length := by
  unfold Fil.rem
  split
  · rw [List.length_take]; omega
  · omega

/-- What there is after a crash. -/
structure Post (s : St) (p : Str) (f : Nat) (X : Str) (M : Nat) (room : Int) : Prop where
  idle : Idle s
  chs : s.chs = []
  safe : s.safe = s.files
  lt : f < s.fil.length
  now : (s.at_ f).now = X
  room : s.room = room
  files : (s.files = [(p, f)] ∧ s.used = (X.length : Int)) ∨ ∃ g, s.files = [(tmpOf p, g), (p, f)] ∧ g ≠ f ∧ (s.at_ g).now.length ≤ M ∧ s.used = ((s.at_ g).now.length : Int) + (X.length : Int)
theorem post_one {s : St} {keep : Int} (parts : List Int) {p : Str} {f : Nat} {X : Str} (M : Nat) (hk : kept s keep = [(p, f)]) (hf : f < s.fil.length) (hX : (s.at_ f).rem (partAt parts 0) = X) : Post (s.crash keep parts) p f X M s.room := by
  obtain ⟨a, b⟩ := crash_one parts hk hf
  have h := after_crash s keep parts
  rw [hX] at a b
  exact ⟨h.idle, h.chs, by rw [h.safe, h.files], by rw [h.len]; exact hf, a, h.room, .inl ⟨h.files.trans hk, b⟩⟩
theorem post_two {s : St} {keep : Int} (parts : List Int) {p : Str} {f g : Nat} {X : Str} (M : Nat) (hk : kept s keep = [(tmpOf p, g), (p, f)]) (hf : f < s.fil.length) (hg : g < s.fil.length) (hne : g ≠ f) (hX : (s.at_ f).rem (partAt parts 1) = X) (hM : ((s.at_ g).rem (partAt parts 0)).length ≤ M) : Post (s.crash keep parts) p f X M s.room := by
  obtain ⟨a, b, c⟩ := crash_two parts hk hf hg hne
  have h := after_crash s keep parts
  rw [hX] at a c
  rw [← b] at hM c
  exact ⟨h.idle, h.chs, by rw [h.safe, h.files], by rw [h.len]; exact hf, a, h.room, .inr ⟨g, h.files.trans hk, hne, hM, c⟩⟩
theorem upTo_range (n most : Int) (h : 0 ≤ most) : 0 ≤ upTo n most ∧ upTo n most ≤ most := by
  unfold upTo
  have h1 := Int.emod_nonneg (max 0 n) (show most + 1 ≠ 0 by omega)
  have h2 := Int.emod_lt_of_pos (max 0 n) (show 0 < most + 1 by omega)
  omega
/-- A crash of a log with one file. -/
theorem One.crash {s : St} {p : Str} {f : Nat} {xa xb : Str} (h : One s p f (xa ++ xb) xa) (keep : Int) (parts : List Int) (M : Nat) : ∃ n, Post (s.crash keep parts) p f (xa ++ xb.take n) M s.room := by
  have hx : s.at_ f = ⟨xa ++ xb, xa, (s.at_ f).st⟩ := by
    cases hq : s.at_ f with
    | mk a b c => rw [← h.now, ← h.sf, hq]
  obtain ⟨n, hn⟩ := rem_cut xa xb (s.at_ f).st (partAt parts 0)
  rw [← hx] at hn
  have hk : kept s keep = [(p, f)] := by unfold kept; rw [h.chs, List.take_nil, h.safe]; rfl
  exact ⟨n, post_one parts M hk h.lt hn⟩
/-- A crash while a log is replaced: before its file is renamed. -/
theorem mid_crash {s0 s : St} {p : Str} (hp : LogPath p) {f : Nat} {xa xb now sf : Str} {used : Int} {F : Dir} (h0 : One s0 p f (xa ++ xb) xa) (h : MidS s0 s F [.mk (tmpOf p) s0.fil.length] now sf used) (keep : Int) (parts : List Int) (M : Nat) (hM : max now.length sf.length ≤ M) : ∃ n, Post (s.crash keep parts) p f (xa ++ xb.take n) M s.room := by
  have hlt := h0.lt
  have hfl : f < s.fil.length := by rw [h.len]; omega
  have hgl : s0.fil.length < s.fil.length := by rw [h.len]; omega
  have hat := h.old f hlt
  have hx : s.at_ f = ⟨xa ++ xb, xa, (s0.at_ f).st⟩ := by
    rw [hat]
    cases hq : s0.at_ f with
    | mk a b c => rw [← h0.now, ← h0.sf, hq]
  have hchs : s.chs = [.mk (tmpOf p) s0.fil.length] := by rw [h.chs, h0.chs]; rfl
  have hu := upTo_range keep (s.chs.length : Int) (by omega)
  rw [hchs] at hu
  simp only [List.length_singleton] at hu
  have hkept : kept s keep = apps ([Chg.mk (tmpOf p) s0.fil.length].take (upTo keep 1).toNat) [(p, f)] := by unfold kept; rw [hchs, h.safe, h0.safe]; rfl
  have hc : (upTo keep 1).toNat = 0 ∨ (upTo keep 1).toNat = 1 := by
    have : upTo keep 1 = upTo keep ((1 : Nat) : Int) := rfl
    rw [← this] at hu
    omega
  rcases hc with hc | hc
  · rw [hc] at hkept
    obtain ⟨n, hn⟩ := rem_cut xa xb (s0.at_ f).st (partAt parts 0)
    rw [← hx] at hn
    exact ⟨n, post_one parts M hkept hfl hn⟩
  · rw [hc] at hkept
    have hk : kept s keep = [(tmpOf p, s0.fil.length), (p, f)] := by
      rw [hkept]
      show put [(p, f)] (tmpOf p) s0.fil.length = _
      exact put_one_t hp _ _
    obtain ⟨n, hn⟩ := rem_cut xa xb (s0.at_ f).st (partAt parts 1)
    rw [← hx] at hn
    refine ⟨n, post_two parts M hk hfl hgl (by omega) hn ?_⟩
    have := rem_le (s.at_ s0.fil.length) (partAt parts 0)
    rw [h.new.1, h.new.2] at this
    omega
/-- After its file is renamed. -/
theorem moved_crash {s0 s : St} {p : Str} (hp : LogPath p) {f : Nat} {xa xb b : Str} {used : Int} {F : Dir} (h0 : One s0 p f (xa ++ xb) xa) (h : MidS s0 s F [.mk (tmpOf p) s0.fil.length, .mv (tmpOf p) p s0.fil.length] b b used) (keep : Int) (parts : List Int) : ∃ f' X, Post (s.crash keep parts) p f' X b.length s.room ∧ ((∃ n, X = xa ++ xb.take n) ∨ X = b) := by
  have hlt := h0.lt
  have hfl : f < s.fil.length := by rw [h.len]; omega
  have hgl : s0.fil.length < s.fil.length := by rw [h.len]; omega
  have hat := h.old f hlt
  have hx : s.at_ f = ⟨xa ++ xb, xa, (s0.at_ f).st⟩ := by
    rw [hat]
    cases hq : s0.at_ f with
    | mk a b c => rw [← h0.now, ← h0.sf, hq]
  have hg : s.at_ s0.fil.length = ⟨b, b, (s.at_ s0.fil.length).st⟩ := by
    obtain ⟨n1, n2⟩ := h.new
    cases hq : s.at_ s0.fil.length with
    | mk x y z => rw [hq] at n1 n2; simp only at n1 n2; rw [n1, n2]
  have hrem : ∀ part, (s.at_ s0.fil.length).rem part = b := fun part => by rw [hg]; exact rem_same _ _ _
  have hchs : s.chs = [.mk (tmpOf p) s0.fil.length, .mv (tmpOf p) p s0.fil.length] := by rw [h.chs, h0.chs]; rfl
  have hu := upTo_range keep (s.chs.length : Int) (by omega)
  rw [hchs] at hu
  have hkept : kept s keep = apps ([Chg.mk (tmpOf p) s0.fil.length, .mv (tmpOf p) p s0.fil.length].take (upTo keep 2).toNat) [(p, f)] := by unfold kept; rw [hchs, h.safe, h0.safe]; rfl
  have hc : (upTo keep 2).toNat = 0 ∨ (upTo keep 2).toNat = 1 ∨ (upTo keep 2).toNat = 2 := by
    have : upTo keep 2 = upTo keep (([Chg.mk (tmpOf p) s0.fil.length, .mv (tmpOf p) p s0.fil.length].length : Nat) : Int) := rfl
    rw [← this] at hu
    simp only [List.length_cons, List.length_nil] at hu
    omega
  rcases hc with hc | hc | hc
  · rw [hc] at hkept
    obtain ⟨n, hn⟩ := rem_cut xa xb (s0.at_ f).st (partAt parts 0)
    rw [← hx] at hn
    exact ⟨f, _, post_one parts _ hkept hfl hn, .inl ⟨n, rfl⟩⟩
  · rw [hc] at hkept
    have hk : kept s keep = [(tmpOf p, s0.fil.length), (p, f)] := by
      rw [hkept]
      show put [(p, f)] (tmpOf p) s0.fil.length = _
      exact put_one_t hp _ _
    obtain ⟨n, hn⟩ := rem_cut xa xb (s0.at_ f).st (partAt parts 1)
    rw [← hx] at hn
    refine ⟨f, _, post_two parts _ hk hfl hgl (by omega) hn ?_, .inl ⟨n, rfl⟩⟩
    rw [hrem]
    exact Nat.le_refl _
  · rw [hc] at hkept
    have hk : kept s keep = [(p, s0.fil.length)] := by
      rw [hkept]
      show put (era (put [(p, f)] (tmpOf p) s0.fil.length) (tmpOf p)) p s0.fil.length = _
      rw [put_one_t hp, era_t2, put_one_p]
    exact ⟨s0.fil.length, b, post_one parts _ hk hgl (hrem _), .inr rfl⟩
end Go.Proofs.YtiikjdjpodmpcaaGreat

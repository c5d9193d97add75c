/- Package tree: what is kept by a rename, a sync and a crash. -/
import Derived.Test.YtodnckflobefpaaTrLives
namespace Go.Proofs.Ytodnckflobefpaa
open Go.RowKit Go.Maps
set_option linter.unusedVariables false

/-! ### Operations on a tree that is on and has no fuse -/
structure Idle (s : St) : Prop where
  off : s.off = false
  fuse : s.fuse = -1
theorem burn_idle {s : St} (h : Idle s) : s.burn = s := by
  obtain ⟨r, u, c, f, sa, ch, fu, o, fi⟩ := s
  obtain ⟨h1, h2⟩ := h
  simp only at h1 h2
  subst h1 h2
  rfl
theorem begin_idle {s : St} (h : Idle s) (ps : List Str) (hp : ps.all okP = true) : s.begin_ ps = (s, 0) := by
  unfold St.begin_
  rw [if_pos hp, burn_idle h, h.off]
  rfl
theorem find_idle {s : St} (h : Idle s) (p : Str) (o : List Str) (hp : (o ++ [p]).all okP = true) {f : Nat} (hl : look s.files p = some f) : s.find p o = (s, some f, 0) := by
  unfold St.find
  rw [begin_idle h _ hp]
  simp only [if_pos, hl]
theorem write_idle {s : St} (h : Idle s) (p b : Str) (hp : okP p = true) {f : Nat} (hl : look s.files p = some f) (hb : ¬ (b.length : Int) > s.left_ (s.used - ((s.at_ f).now.length : Int))) : s.write p b = (s.putB f b, 0) := by
  unfold St.write
  rw [find_idle h p [] (by simpa using hp) hl]
  simp only
  rw [if_neg hb]
theorem append_idle {s : St} (h : Idle s) (p b : Str) (hp : okP p = true) {f : Nat} (hl : look s.files p = some f) (hb : ¬ (b.length : Int) > s.left_ s.used) : s.append_ p b = (s.putB f ((s.at_ f).now ++ b), 0) := by
  unfold St.append_
  rw [find_idle h p [] (by simpa using hp) hl]
  simp only
  rw [if_neg hb]
theorem sync_idle {s : St} (h : Idle s) (p : Str) (hp : okP p = true) {f : Nat} (hl : look s.files p = some f) : s.sync p = (s.set_ f { s.at_ f with sf := (s.at_ f).now }, 0) := by
  unfold St.sync
  rw [find_idle h p [] (by simpa using hp) hl]
theorem syncPaths_idle {s : St} (h : Idle s) : s.syncPaths = (s.settle s.chs.length, 0) := by
  unfold St.syncPaths
  rw [begin_idle h [] rfl]
  rfl
theorem read_idle {s : St} (h : Idle s) (p : Str) (hp : okP p = true) {f : Nat} (hl : look s.files p = some f) : s.read p = (s, (s.at_ f).now, 0) := by
  unfold St.read
  rw [find_idle h p [] (by simpa using hp) hl]

/-! ### Crashes -/
theorem upTo_zero (n : Int) : upTo n 0 = 0 := by unfold upTo; omega
theorem rem_same (v : Str) (st : Nat) (part : Int) : (⟨v, v, st⟩ : Fil).rem part = v := by
  unfold Fil.rem
  rw [if_pos (by simp)]
  rw [show ((v.length : Int) - (v.length : Int)) = 0 from by omega, upTo_zero]
  simp
theorem set_at (s s' : St) (f : Nat) (x : Fil) (h : s'.fil = s.fil.set f x) (hf : f < s.fil.length) (i : Nat) : s'.at_ i = if i = f then x else s.at_ i := by
  rw [← at_set s f i x hf]
  unfold St.at_
  rw [h]
/-- A file whose bytes are safe has them after the crash. -/
theorem restores_at (before : Dir) (parts : List Int) (g : Nat) (v : Str) : ∀ (l : Dir) (i : Nat) (s : St), (∀ e ∈ l, e.2 < s.fil.length) → (s.at_ g).now = v → (s.at_ g).sf = v → ((St.restores before parts i l s).at_ g).now = v ∧ ((St.restores before parts i l s).at_ g).sf = v
  | [], _, s, _, h1, h2 => ⟨h1, h2⟩
  | (p, f) :: r, i, s, hl, h1, h2 => by
    obtain ⟨st, e1, _⟩ := restore_facts s p f (look before p) (partAt parts i)
    have hf := hl (p, f) List.mem_cons_self
    have ha := set_at s _ f _ e1 hf g
    refine restores_at before parts g v r (i + 1) _ (fun e he => by rw [e1, List.length_set]; exact hl e (List.mem_cons_of_mem _ he)) ?_ ?_
    all_goals
      rw [ha]
      split
      · rename_i e
        subst e
        have hx : s.at_ g = ⟨v, v, (s.at_ g).st⟩ := by
          cases hq : s.at_ g with
          | mk a b c => rw [hq] at h1 h2; simp only at h1 h2; subst h1; subst h2; rfl
        rw [hx]
        exact rem_same v _ _
      · assumption
/-- Where all bytes are safe, and every file has the path that it had, a crash changes no file. -/
theorem restores_calm (before : Dir) (parts : List Int) : ∀ (l : Dir) (i : Nat) (s : St), (∀ e ∈ l, e.2 < s.fil.length ∧ look before e.1 = some e.2 ∧ (s.at_ e.2).sf = (s.at_ e.2).now) → ∀ j, (St.restores before parts i l s).at_ j = s.at_ j
  | [], _, s, _, j => rfl
  | (p, f) :: r, i, s, hl, j => by
    obtain ⟨hf, hb, hsf⟩ := hl (p, f) List.mem_cons_self
    simp only at hf hb hsf
    have hx : s.at_ f = ⟨(s.at_ f).now, (s.at_ f).now, (s.at_ f).st⟩ := by
      cases hq : s.at_ f with
      | mk a b c => rw [hq] at hsf; simp only at hsf; rw [hsf]
    have hr : (s.at_ f).rem (partAt parts i) = (s.at_ f).now := by
      conv => lhs; rw [hx]
      exact rem_same _ _ _
    have hk : keeps s f (look before p) (partAt parts i) = true := by
      unfold keeps
      rw [hb, hr]
      simp
    have e := restore_yes s p f (look before p) (partAt parts i) hk
    have hat : ∀ j, (s.restore p f (look before p) (partAt parts i)).at_ j = s.at_ j := fun j => by
      rw [set_at s _ f ⟨(s.at_ f).rem (partAt parts i), (s.at_ f).rem (partAt parts i), (s.at_ f).st⟩ (by rw [e]) hf j]
      split
      · rename_i e2; subst e2; rw [hr]; exact hx.symm
      · rfl
    show (St.restores before parts (i + 1) r (s.restore p f (look before p) (partAt parts i))).at_ j = _
    rw [restores_calm before parts r (i + 1) _ (fun q hq => ?_) j, hat]
    obtain ⟨q1, q2, q3⟩ := hl q (List.mem_cons_of_mem _ hq)
    exact ⟨by rw [e]; simpa using q1, q2, by rw [hat]; exact q3⟩
theorem restores_same (before : Dir) (parts : List Int) : ∀ (l : Dir) (i : Nat) (s : St), (St.restores before parts i l s).files = s.files ∧ (St.restores before parts i l s).safe = s.safe ∧ (St.restores before parts i l s).chs = s.chs ∧ (St.restores before parts i l s).room = s.room ∧ (St.restores before parts i l s).fil.length = s.fil.length
  | [], _, _ => ⟨rfl, rfl, rfl, rfl, rfl⟩
  | (p, f) :: r, i, s => by
    obtain ⟨st, e1, _, _, e4, e5, e6, e7, _⟩ := restore_facts s p f (look before p) (partAt parts i)
    obtain ⟨a, b, c, d, e⟩ := restores_same before parts r (i + 1) (s.restore p f (look before p) (partAt parts i))
    exact ⟨a.trans e4, b.trans e5, c.trans e6, d.trans e7, e.trans (by rw [e1, List.length_set])⟩
def kept (s : St) (keep : Int) : Dir := apps (s.chs.take (upTo keep (s.chs.length : Int)).toNat) s.safe
structure After (s : St) (keep : Int) (s' : St) : Prop where
  idle : Idle s'
  files : s'.files = kept s keep
  safe : s'.safe = kept s keep
  chs : s'.chs = []
  room : s'.room = s.room
  len : s'.fil.length = s.fil.length
theorem after_crash (s : St) (keep : Int) (parts : List Int) : After s keep (s.crash keep parts) := by
  rw [crash_eq]
  obtain ⟨a, b, c, d, e⟩ := restores_same s.files parts (s.c3 keep).files 0 (s.c3 keep)
  exact ⟨⟨rfl, rfl⟩, a, b, c, d, e⟩
theorem crash_at {s : St} (keep : Int) (parts : List Int) (g : Nat) (v : Str) (hl : ∀ e ∈ kept s keep, e.2 < s.fil.length) (h1 : (s.at_ g).now = v) (h2 : (s.at_ g).sf = v) : ((s.crash keep parts).at_ g).now = v ∧ ((s.crash keep parts).at_ g).sf = v := by
  rw [crash_eq]
  exact restores_at s.files parts g v (s.c3 keep).files 0 (s.c3 keep) hl h1 h2
theorem crash_calm {s : St} (keep : Int) (parts : List Int) (hc : s.chs = []) (hs : s.safe = s.files) (hl : ∀ e ∈ s.files, e.2 < s.fil.length ∧ look s.files e.1 = some e.2 ∧ (s.at_ e.2).sf = (s.at_ e.2).now) : (s.crash keep parts).files = s.files ∧ ∀ j, (s.crash keep parts).at_ j = s.at_ j := by
  have hk : (s.c3 keep).files = s.files := by
    show apps (s.chs.take _) s.safe = _
    rw [hc, hs, List.take_nil]
    rfl
  refine ⟨(after_crash s keep parts).files.trans hk, fun j => ?_⟩
  rw [crash_eq]
  show (St.restores s.files parts 0 (s.c3 keep).files (s.c3 keep)).at_ j = _
  rw [hk]
  exact restores_calm s.files parts s.files 0 (s.c3 keep) hl j
end Go.Proofs.Ytodnckflobefpaa

/- Package tree: what files use. -/
import Derived.Test.YtodnckflobefpaaTrFuse
namespace Go.Proofs.Ytodnckflobefpaa
open Go.RowKit Go.Maps
set_option linter.unusedVariables false

theorem insd_perm (p : Str) (f : Nat) : ∀ l : Dir, (insd p f l).Perm ((p, f) :: l)
  | [] => List.Perm.refl _
  | e :: r => by
    unfold insd
    split
    · exact List.Perm.refl _
    · exact ((insd_perm p f r).cons e).trans (List.Perm.swap _ _ _)
theorem look_none {l : Dir} {p : Str} (h : look l p = none) : ∀ e ∈ l, e.1 ≠ p := fun e he hp => by
  unfold look at h
  rw [Option.map_eq_none_iff, List.find?_eq_none] at h
  exact h e he (by simp [hp])
theorem era_none {l : Dir} {p : Str} (h : ∀ e ∈ l, e.1 ≠ p) : era l p = l := by
  unfold era
  rw [List.filter_eq_self]
  intro e he
  simp [h e he]
def PsA (l : Dir) : Prop := l.Pairwise fun a b => a.1 ≠ b.1
def FsA (l : Dir) : Prop := l.Pairwise fun a b => a.2 ≠ b.2
theorem era_some : ∀ {l : Dir} {p : Str} {f : Nat}, PsA l → look l p = some f → l.Perm ((p, f) :: era l p)
  | [], p, f, _, h => by cases h
  | (q, g) :: r, p, f, hp, h => by
    unfold PsA at hp
    rw [List.pairwise_cons] at hp
    by_cases hq : q = p
    · subst hq
      have hf : g = f := by
        unfold look at h
        simpa using h
      subst hf
      have : era ((q, g) :: r) q = r := by
        have e := era_none (l := r) (p := q) (fun e he => (hp.1 e he).symm)
        unfold era at e ⊢
        rw [List.filter_cons_of_neg (by simp)]
        exact e
      rw [this]
    · have h2 : look r p = some f := by
        unfold look at h ⊢
        rw [List.find?_cons_of_neg (by simp [hq])] at h
        exact h
      have : era ((q, g) :: r) p = (q, g) :: era r p := by
        unfold era
        rw [List.filter_cons_of_pos (by simp [hq])]
      rw [this]
      exact ((era_some hp.2 h2).cons (q, g)).trans (List.Perm.swap _ _ _)
theorem psA_perm {l l' : Dir} (h : l.Perm l') (hp : PsA l) : PsA l' := (List.Perm.pairwise_iff (fun h => Ne.symm h) h).1 hp
theorem fsA_perm {l l' : Dir} (h : l.Perm l') (hp : FsA l) : FsA l' := (List.Perm.pairwise_iff (fun h => Ne.symm h) h).1 hp
theorem psA_era {l : Dir} (p : Str) (h : PsA l) : PsA (era l p) := List.Pairwise.sublist List.filter_sublist h
theorem fsA_era {l : Dir} (p : Str) (h : FsA l) : FsA (era l p) := List.Pairwise.sublist List.filter_sublist h

def sz (s : St) (l : Dir) : Nat := (l.map fun e => (s.at_ e.2).now.length).sum
theorem sz_perm (s : St) {l l' : Dir} (h : l.Perm l') : sz s l = sz s l' := (h.map _).sum_nat
theorem sz_cons (s : St) (e : Str × Nat) (l : Dir) : sz s (e :: l) = (s.at_ e.2).now.length + sz s l := by unfold sz; simp
theorem sz_congr {s s' : St} {l : Dir} (h : ∀ e ∈ l, (s'.at_ e.2).now.length = (s.at_ e.2).now.length) : sz s' l = sz s l := by
  unfold sz
  rw [List.map_congr_left h]
/-- What is used is what files have; paths and files lie apart. -/
structure Acc (s : St) : Prop where
  room : s.room = 5000
  ps : PsA s.files
  fs : FsA s.files
  lt : ∀ e ∈ s.files, e.2 < s.fil.length
  used : s.used = (sz s s.files : Int)
  le : sz s s.files ≤ 5000
theorem acc_new : Acc (St.new 5000) := ⟨rfl, List.Pairwise.nil, List.Pairwise.nil, (fun e he => by cases he), rfl, Nat.zero_le _⟩
theorem acc_same {s s' : St} (h : Acc s) (hr : s'.room = s.room) (hf : s'.files = s.files) (hl : s'.fil.length = s.fil.length) (hu : s'.used = s.used) (ha : ∀ i, (s'.at_ i).now = (s.at_ i).now) : Acc s' := by
  have e : sz s' s'.files = sz s s.files := by rw [hf]; exact sz_congr fun e _ => by rw [ha]
  exact ⟨hr.trans h.room, by rw [hf]; exact h.ps, by rw [hf]; exact h.fs, by rw [hf, hl]; exact h.lt, by rw [e, hu]; exact h.used, by rw [e]; exact h.le⟩
theorem acc_putB {s : St} (h : Acc s) {p : Str} {f : Nat} (hl : look s.files p = some f) (b : Str) (hb : s.used - ((s.at_ f).now.length : Int) + (b.length : Int) ≤ 5000) : Acc (s.putB f b) := by
  have hf : f < s.fil.length := h.lt _ (look_mem hl)
  have hp := era_some h.ps hl
  have ha := set_at s (s.putB f b) f { s.at_ f with now := b, st := s.clock + 1 } rfl hf
  have h1 : sz s s.files = (s.at_ f).now.length + sz s (era s.files p) := by rw [sz_perm s hp, sz_cons]
  have hfs := fsA_perm hp h.fs
  unfold FsA at hfs
  rw [List.pairwise_cons] at hfs
  have h2 : sz (s.putB f b) (era s.files p) = sz s (era s.files p) := sz_congr fun e he => by rw [ha, if_neg (fun x => hfs.1 e he x.symm)]
  have h3 : sz (s.putB f b) s.files = b.length + sz s (era s.files p) := by rw [sz_perm _ hp, sz_cons, h2, ha, if_pos rfl]
  have hu := h.used
  have e1 : (s.putB f b).used = s.used + ((b.length : Int) - ((s.at_ f).now.length : Int)) := rfl
  exact ⟨h.room, h.ps, h.fs, (by show ∀ e ∈ s.files, e.2 < (s.fil.set f _).length; rw [List.length_set]; exact h.lt), by show (s.putB f b).used = ((sz (s.putB f b) s.files : Nat) : Int); omega, by show sz (s.putB f b) s.files ≤ 5000; omega⟩
theorem acc_make {s : St} (h : Acc s) {p : Str} (hl : look s.files p = none) (st : Nat) : Acc (St.record { s with fil := s.fil ++ [(⟨[], [], st⟩ : Fil)] } (.mk p s.fil.length)) := by
  have hn := look_none hl
  have hp : (put s.files p s.fil.length).Perm ((p, s.fil.length) :: s.files) := by unfold put; rw [era_none hn]; exact insd_perm _ _ _
  have ha : ∀ i, i < s.fil.length → (St.record { s with fil := s.fil ++ [(⟨[], [], st⟩ : Fil)] } (.mk p s.fil.length)).at_ i = s.at_ i := fun i hi => by unfold St.record St.at_; simp [List.getD, List.getElem?_append_left hi]
  have hx : ((St.record { s with fil := s.fil ++ [(⟨[], [], st⟩ : Fil)] } (.mk p s.fil.length)).at_ s.fil.length).now = [] := by unfold St.record St.at_; simp [List.getD]
  have h1 : sz (St.record { s with fil := s.fil ++ [(⟨[], [], st⟩ : Fil)] } (.mk p s.fil.length)) (put s.files p s.fil.length) = sz s s.files := by
    rw [sz_perm _ hp, sz_cons, hx, sz_congr (s := s) fun e he => by rw [ha e.2 (h.lt e he)]]
    simp
  refine ⟨h.room, psA_perm hp.symm (List.Pairwise.cons (fun e he => (hn e he).symm) h.ps), fsA_perm hp.symm (List.Pairwise.cons (fun e he => by have := h.lt e he; show s.fil.length ≠ e.2; omega) h.fs), ?_, ?_, ?_⟩
  · intro e he
    have : e ∈ put s.files p s.fil.length := he
    rw [hp.mem_iff, List.mem_cons] at this
    show e.2 < (s.fil ++ [_]).length
    rw [List.length_append]
    rcases this with rfl | this
    · simp
    · have := h.lt e this; omega
  · show s.used = ((sz _ (put s.files p s.fil.length) : Nat) : Int)
    rw [h1]; exact h.used
  · show sz _ (put s.files p s.fil.length) ≤ 5000
    rw [h1]; exact h.le
theorem free_used (s : St) (p : Str) : (s.free p).files = s.files ∧ (s.free p).room = s.room ∧ (s.free p).fil = s.fil := by
  unfold St.free
  split <;> exact ⟨rfl, rfl, rfl⟩
theorem acc_remove {s : St} (h : Acc s) {p : Str} {f : Nat} (hl : look s.files p = some f) : Acc ((s.free p).record (.rm p)) := by
  obtain ⟨e1, e2, e3⟩ := free_used s p
  have hp := era_some h.ps hl
  have h1 : sz s s.files = (s.at_ f).now.length + sz s (era s.files p) := by rw [sz_perm s hp, sz_cons]
  have hat : ∀ i, ((s.free p).record (.rm p)).at_ i = s.at_ i := fun i => by show (s.free p).fil.getD i default = _; rw [e3]; rfl
  have hfi : ((s.free p).record (.rm p)).files = era s.files p := by show era (s.free p).files p = _; rw [e1]
  have hsz : sz ((s.free p).record (.rm p)) (era s.files p) = sz s (era s.files p) := sz_congr fun e _ => by rw [hat]
  have hu : ((s.free p).record (.rm p)).used = s.used - ((s.at_ f).now.length : Int) := by show (s.free p).used = _; unfold St.free; rw [hl]
  have := h.used
  have := h.le
  refine ⟨e2.trans h.room, by rw [hfi]; exact psA_era p h.ps, by rw [hfi]; exact fsA_era p h.fs, ?_, by rw [hfi, hsz, hu]; omega, by rw [hfi, hsz]; omega⟩
  intro e he
  rw [hfi] at he
  show e.2 < (s.free p).fil.length
  rw [e3]
  exact h.lt e (mem_era.1 he).1
theorem look_era {l : Dir} {p q : Str} (h : p ≠ q) : look (era l p) q = look l q := by
  induction l with
  | nil => rfl
  | cons e r ih =>
    unfold look era at ih ⊢
    by_cases hp : e.1 = p
    · rw [List.filter_cons_of_neg (by simp [hp]), List.find?_cons_of_neg (by simp [hp, h])]
      exact ih
    · rw [List.filter_cons_of_pos (by simp [hp])]
      by_cases hq : e.1 = q
      · rw [List.find?_cons_of_pos (by simp [hq]), List.find?_cons_of_pos (by simp [hq])]
      · rw [List.find?_cons_of_neg (by simp [hq]), List.find?_cons_of_neg (by simp [hq])]
        exact ih
theorem acc_rename {s : St} (h : Acc s) {p q : Str} {f : Nat} (hl : look s.files p = some f) (hne : p ≠ q) : Acc ((s.free q).record (.mv p q f)) := by
  obtain ⟨e1, e2, e3⟩ := free_used s q
  have hp := era_some h.ps hl
  have hf : f < s.fil.length := h.lt _ (look_mem hl)
  obtain ⟨E, hE⟩ : ∃ E, era s.files p = E := ⟨_, rfl⟩
  have hlq : look E q = look s.files q := by rw [← hE]; exact look_era hne
  have hpE : PsA E := by rw [← hE]; exact psA_era p h.ps
  have hfE : FsA E := by rw [← hE]; exact fsA_era p h.fs
  have hmE : ∀ e ∈ E, e ∈ s.files := fun e he => by rw [← hE] at he; exact (mem_era.1 he).1
  rw [hE] at hp
  have hfs := fsA_perm hp h.fs
  unfold FsA at hfs
  rw [List.pairwise_cons] at hfs
  have h1 : sz s s.files = (s.at_ f).now.length + sz s E := by rw [sz_perm s hp, sz_cons]
  have hat : ∀ i, ((s.free q).record (.mv p q f)).at_ i = s.at_ i := fun i => by show (s.free q).fil.getD i default = _; rw [e3]; rfl
  have hfi : ((s.free q).record (.mv p q f)).files = put E q f := by show put (era (s.free q).files p) q f = _; rw [e1, hE]
  have hpq : (put E q f).Perm ((q, f) :: era E q) := insd_perm _ _ _
  have hsz : sz ((s.free q).record (.mv p q f)) (put E q f) = (s.at_ f).now.length + sz s (era E q) := by
    rw [sz_perm _ hpq, sz_cons, hat, sz_congr (s := s) fun e _ => by rw [hat]]
  have hu : ((s.free q).record (.mv p q f)).used = s.used - ((sz s E : Nat) : Int) + ((sz s (era E q) : Nat) : Int) := by
    show (s.free q).used = _
    unfold St.free
    cases hq : look s.files q with
    | none =>
      have : era E q = E := era_none (look_none (hlq.trans hq))
      rw [this]
      show s.used = _
      omega
    | some g =>
      have : sz s E = (s.at_ g).now.length + sz s (era E q) := by rw [sz_perm s (era_some hpE (hlq.trans hq)), sz_cons]
      show s.used - ((s.at_ g).now.length : Int) = _
      omega
  have hle : sz s (era E q) ≤ sz s E := by
    cases hq : look E q with
    | none => rw [era_none (look_none hq)]; exact Nat.le_refl _
    | some g => rw [sz_perm s (era_some hpE hq), sz_cons]; omega
  have := h.used
  have := h.le
  refine ⟨e2.trans h.room, by rw [hfi]; exact psA_perm hpq.symm (List.Pairwise.cons (fun e he => ((mem_era.1 he).2).symm) (psA_era q hpE)), by rw [hfi]; exact fsA_perm hpq.symm (List.Pairwise.cons (fun e he => hfs.1 e (mem_era.1 he).1) (fsA_era q hfE)), ?_, by rw [hfi, hsz, hu]; push_cast; omega, by rw [hfi, hsz]; omega⟩
  intro e he
  rw [hfi, hpq.mem_iff, List.mem_cons] at he
  show e.2 < (s.free q).fil.length
  rw [e3]
  rcases he with rfl | he
  · exact hf
  · exact h.lt e (hmE e (mem_era.1 he).1)
theorem act_acc {s : St} (hi : Idle s) (h : Acc s) (a : Ac) (b : Str) (ps : List Int) (h7 : pickOf a.K 10 ≠ 7) (h8 : pickOf a.K 10 ≠ 8) : Acc (s.act a b ps).1 := by
  have hu := h.used
  have hr := h.room
  have hle := h.le
  unfold St.act
  rcases ten (pickOf_lo a.K 10 (by omega)) (pickOf_hi a.K 10 (by omega)) with e | e | e | e | e | e | e | e | e | e <;> rw [e]
  · show Acc (s.make a.p).1
    have hb := (hi.begin [a.p]).1
    unfold St.make
    generalize s.begin_ [a.p] = r at *
    obtain ⟨s1, er⟩ := r
    simp only at hb ⊢
    subst hb
    split
    · cases hl : look s1.files a.p with
      | some f => exact h
      | none => exact acc_make h hl _
    · exact h
  · show Acc (s.write a.p b).1
    obtain ⟨r, er, hr2, hlk⟩ := hi.find a.p []
    unfold St.write
    rw [hr2]
    cases r with
    | none => exact h
    | some f =>
      simp only
      split
      · exact h
      · rename_i hc
        refine acc_putB h (hlk f rfl) b ?_
        have h1 : sz s s.files = (s.at_ f).now.length + sz s (era s.files a.p) := by rw [sz_perm s (era_some h.ps (hlk f rfl)), sz_cons]
        unfold St.left_ at hc
        rw [hr] at hc
        omega
  · show Acc (s.append_ a.p b).1
    obtain ⟨r, er, hr2, hlk⟩ := hi.find a.p []
    unfold St.append_
    rw [hr2]
    cases r with
    | none => exact h
    | some f =>
      simp only
      split
      · exact h
      · rename_i hc
        refine acc_putB h (hlk f rfl) _ ?_
        unfold St.left_ at hc
        rw [hr] at hc
        rw [List.length_append]
        push_cast
        omega
  · show Acc (s.sync a.p).1
    obtain ⟨r, er, hr2, hlk⟩ := hi.find a.p []
    unfold St.sync
    rw [hr2]
    cases r with
    | none => exact h
    | some f =>
      have hf : f < s.fil.length := h.lt _ (look_mem (hlk f rfl))
      refine acc_same h rfl rfl (by show (s.fil.set f _).length = _; rw [List.length_set]) rfl fun i => ?_
      rw [set_at s _ f { s.at_ f with sf := (s.at_ f).now } rfl hf i]
      split
      · rename_i e; rw [e]
      · rfl
  · show Acc s.syncPaths.1
    rw [syncPaths_idle hi]
    exact acc_same h rfl rfl rfl rfl fun i => rfl
  · show Acc (s.rename a.p a.q).1
    obtain ⟨r, er, hr2, hlk⟩ := hi.find a.p [a.q]
    unfold St.rename
    rw [hr2]
    cases r with
    | none => exact h
    | some f =>
      simp only
      split
      · exact h
      · rename_i hc
        exact acc_rename h (hlk f rfl) hc
  · show Acc (s.remove a.p).1
    obtain ⟨r, er, hr2, hlk⟩ := hi.find a.p []
    unfold St.remove
    rw [hr2]
    cases r with
    | none => exact h
    | some f => exact acc_remove h (hlk f rfl)
  · exact absurd e h7
  · exact absurd e h8
  · show Acc (s.read a.p).1
    rw [(read_any_idle hi a.p).1]
    exact h
end Go.Proofs.Ytodnckflobefpaa

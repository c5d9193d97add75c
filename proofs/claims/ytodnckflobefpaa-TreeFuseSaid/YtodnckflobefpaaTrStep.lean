/- Package tree: what k calls keep. -/
import Derived.Test.YtodnckflobefpaaTrX
namespace Go.Proofs.Ytodnckflobefpaa
open Go.RowKit Go.Maps
set_option linter.unusedVariables false

def Sp (s : St) : Prop := (∀ e ∈ s.safe, e.1.length ≤ 10000) ∧ ∀ e ∈ s.files, e.1.length ≤ 10000
structure Good (k : Nat) (s : St) : Prop where
  ok : Ok k s
  sp : Sp s
theorem Good.up {k m : Nat} {s : St} (h : Good k s) (hm : k ≤ m) : Good m s := by
  obtain ⟨d, rfl⟩ : ∃ d, m = k + d := ⟨m - k, by omega⟩
  induction d with
  | zero => exact h
  | succ d ih => exact ⟨(ih (by omega)).ok.more, h.sp⟩
theorem Good.new (room : Int) (h0 : 0 ≤ room) (h1 : room ≤ 67108864) : Good 0 (St.new room) := by
  have ha : ∀ i, ((St.new room).at_ i) = default := fun i => by unfold St.new St.at_; rfl
  exact ⟨⟨fun e he => by simp [St.new] at he, fun e he => by simp [St.new] at he, fun e he => by simp [St.new] at he, h0, h1, by show _ ≤ (0 : Int); omega, by show (0 : Int) ≤ _; omega, Nat.zero_le _, by show (-1 : Int) ≤ -1; omega, by show (-1 : Int) ≤ _; omega, Nat.le_refl _, Nat.le_refl _, Nat.le_refl _, fun i => by rw [ha]; exact Nat.zero_le _, fun i => by rw [ha]; exact Nat.zero_le _⟩, fun e he => by simp [St.new] at he, fun e he => by simp [St.new] at he⟩
theorem Good.begin {k : Nat} {s : St} (h : Good k s) (ps : List Str) : Good k (s.begin_ ps).1 := ⟨h.ok.begin ps, by unfold Sp; rw [(begin_same s ps).2.1, (begin_same s ps).1]; exact h.sp⟩
theorem Good.after {k : Nat} {s s1 : St} {p : Str} {o : List Str} {r : Option Nat} {er : Int} (hf : Found s p o s1 r er) (h : Good k s) : Good k s1 := by
  refine ⟨hf.ok h.ok, ?_⟩
  have := hf.eq
  rw [find_eq] at this
  simp only [Prod.mk.injEq] at this
  unfold Sp
  rw [← this.1, (begin_same s _).2.1, (begin_same s _).1]
  exact h.sp
theorem Ok.record {k : Nat} {s : St} (h : Ok k s) (c : Chg) (hc : c.small s.fil.length) : Ok (k + 1) (s.record c) := by
  have hl := app_length c s.files
  exact { fs := fun e he => by
            rcases mem_app (c := c) (l := s.files) he with h1 | h1
            · exact h.fs e h1
            · cases c with
              | mk p f => simp only [Chg.new, Option.some.injEq] at h1; rw [← h1]; exact hc.2
              | mv p q f => simp only [Chg.new, Option.some.injEq] at h1; rw [← h1]; exact hc.2.2
              | rm p => cases h1
          ss := h.ss
          cs := fun c' hc' => by
            rcases List.mem_append.1 hc' with h1 | h1
            · exact h.cs c' h1
            · rw [List.mem_singleton.1 h1]; exact hc
          r0 := h.r0, r1 := h.r1
          u0 := by have := h.u0; show _ ≤ s.used; omega
          u1 := by have := h.u1; show s.used ≤ _; omega
          ck := by have := h.ck; show s.clock + 1 ≤ _; omega
          f0 := h.f0, f1 := h.f1
          nf := by have := h.nf; show s.fil.length ≤ _; omega
          lf := by have := h.lf; show (c.app s.files).length ≤ _; omega
          ls := by have := h.ls; show s.safe.length + (s.chs ++ [c]).length ≤ _; rw [List.length_append, List.length_singleton]; omega
          sz := fun i => by have := h.sz i; show (s.at_ i).now.length ≤ _; omega
          sy := fun i => by have := h.sy i; show (s.at_ i).sf.length ≤ _; omega }
theorem fp_app {c : Chg} {n : Nat} (hc : c.small n) {l : Dir} (hl : ∀ e ∈ l, e.1.length ≤ 10000) : ∀ e ∈ c.app l, e.1.length ≤ 10000 := fun e he => by
  rcases mem_app he with h | h
  · exact hl e h
  · cases c with
    | mk p f => simp only [Chg.new, Option.some.injEq] at h; rw [← h]; exact hc.1
    | mv p q f => simp only [Chg.new, Option.some.injEq] at h; rw [← h]; exact hc.2.1
    | rm p => cases h
theorem Good.record {k : Nat} {s : St} (h : Good k s) (c : Chg) (hc : c.small s.fil.length) : Good (k + 1) (s.record c) := ⟨h.ok.record c hc, h.sp.1, fp_app hc h.sp.2⟩
theorem Ok.setF {k : Nat} {s s' : St} (h : Ok k s) (f : Nat) (x : Fil) (e1 : s'.fil = s.fil.set f x) (e2 : s'.files = s.files) (e3 : s'.safe = s.safe) (e4 : s'.chs = s.chs) (e5 : s'.room = s.room) (e6 : s'.fuse = s.fuse)
    (hu : -(10000000000 * ((k : Int) + 1)) ≤ s'.used) (hu2 : s'.used ≤ 10000000000 * ((k : Int) + 1)) (hc : s'.clock ≤ s.clock + 1) (h1 : x.now.length ≤ 10000 * (k + 1)) (h2 : x.sf.length ≤ 10000 * (k + 1)) : Ok (k + 1) s' := by
  have hl : s'.fil.length = s.fil.length := by rw [e1, List.length_set]
  exact ⟨by rw [e2, hl]; exact h.fs, by rw [e3, hl]; exact h.ss, by rw [e4, hl]; exact h.cs, by rw [e5]; exact h.r0, by rw [e5]; exact h.r1, by push_cast; exact hu, by push_cast; exact hu2, by have := h.ck; omega, by rw [e6]; exact h.f0, by rw [e6]; exact h.f1,
    by rw [hl]; have := h.nf; omega, by rw [e2]; have := h.lf; omega, by rw [e3, e4]; have := h.ls; omega,
    fun i => at_set2 s s' f x e1 (fun x => x.now.length ≤ 10000 * (k + 1)) h1 (fun i => by have := h.sz i; omega) i, fun i => at_set2 s s' f x e1 (fun x => x.sf.length ≤ 10000 * (k + 1)) h2 (fun i => by have := h.sy i; omega) i⟩
theorem Ok.putB {k : Nat} {s : St} (h : Ok k s) (hk : k ≤ 1000) (f : Nat) (b : Str) (hb : b.length ≤ 10000 * (k + 1)) : Ok (k + 1) (s.putB f b) := by
  have hz := h.sz f
  have hy := h.sy f
  have u0 := h.u0
  have u1 := h.u1
  refine h.setF f { s.at_ f with now := b, st := s.clock + 1 } rfl rfl rfl rfl rfl rfl ?_ ?_ (Nat.le_refl _) hb (by show (s.at_ f).sf.length ≤ _; omega)
  · show _ ≤ s.used + ((b.length : Int) - ((s.at_ f).now.length : Int)); omega
  · show s.used + ((b.length : Int) - ((s.at_ f).now.length : Int)) ≤ _; omega

theorem Good.make {k : Nat} {s : St} (h : Good k s) (p : Str) (hp : p.length ≤ 10000) : Good (k + 2) (s.make p).1 := by
  have hb := h.begin [p]
  obtain ⟨e1, e2, e3, e4, _⟩ := begin_same s [p]
  rw [make_eq]
  split
  · cases look s.files p with
    | some f => exact hb.up (by omega)
    | none =>
      refine Good.record ⟨hb.ok.addF (s.clock + 1), hb.sp⟩ _ ⟨hp, ?_⟩
      show s.fil.length < ((s.begin_ [p]).1.fil ++ [_]).length
      rw [e4]; simp
  · exact hb.up (by omega)
theorem Good.write {k : Nat} {s : St} (h : Good k s) (hk : k ≤ 1000) (p b : Str) (hb : b.length ≤ 10000) : Good (k + 2) (s.write p b).1 := by
  obtain ⟨s1, r, er, hf⟩ := found s p []
  have g := h.after hf
  rw [write_eq s p b hf]
  unfold writeR
  cases r with
  | none => exact g.up (by omega)
  | some f =>
    simp only
    split
    · exact g.up (by omega)
    · exact (⟨g.ok.putB hk f b (by omega), g.sp⟩ : Good (k + 1) _).up (by omega)
theorem Good.append {k : Nat} {s : St} (h : Good k s) (hk : k ≤ 1000) (p b : Str) (hb : b.length ≤ 10000) : Good (k + 2) (s.append_ p b).1 := by
  obtain ⟨s1, r, er, hf⟩ := found s p []
  have g := h.after hf
  rw [append_eq s p b hf]
  unfold appendR
  cases r with
  | none => exact g.up (by omega)
  | some f =>
    simp only
    split
    · exact g.up (by omega)
    · exact (⟨g.ok.putB hk f _ (by rw [List.length_append]; have := g.ok.sz f; omega), g.sp⟩ : Good (k + 1) _).up (by omega)
theorem Good.sync {k : Nat} {s : St} (h : Good k s) (p : Str) : Good (k + 2) (s.sync p).1 := by
  obtain ⟨s1, r, er, hf⟩ := found s p []
  have g := h.after hf
  rw [sync_eq s p hf]
  unfold syncFR
  cases r with
  | none => exact g.up (by omega)
  | some f =>
    have hz := g.ok.sz f
    have u0 := g.ok.u0
    have u1 := g.ok.u1
    have O : Ok (k + 1) (s1.set_ f { s1.at_ f with sf := (s1.at_ f).now }) :=
      g.ok.setF (s' := s1.set_ f { s1.at_ f with sf := (s1.at_ f).now }) f { s1.at_ f with sf := (s1.at_ f).now } rfl rfl rfl rfl rfl rfl (by show _ ≤ s1.used; omega) (by show s1.used ≤ _; omega) (Nat.le_succ _) (by show (s1.at_ f).now.length ≤ _; omega) (by show (s1.at_ f).now.length ≤ _; omega)
    exact (⟨O, g.sp⟩ : Good (k + 1) _).up (by omega)
theorem sp_apps {n : Nat} : ∀ (cs : List Chg) (l : Dir), (∀ c ∈ cs, c.small n) → (∀ e ∈ l, e.1.length ≤ 10000) → ∀ e ∈ apps cs l, e.1.length ≤ 10000 := by
  intro cs
  induction cs with
  | nil => intro l _ hl; exact hl
  | cons c cs ih =>
    intro l hcs hl
    refine ih (c.app l) (fun c' hc' => hcs c' (List.mem_cons_of_mem _ hc')) fun e he => ?_
    rcases mem_app he with h | h
    · exact hl e h
    · have hc := hcs c List.mem_cons_self
      cases c with
      | mk p f => simp only [Chg.new, Option.some.injEq] at h; rw [← h]; exact hc.1
      | mv p q f => simp only [Chg.new, Option.some.injEq] at h; rw [← h]; exact hc.2.1
      | rm p => cases h
theorem Good.settle {k : Nat} {s : St} (h : Good k s) (n : Nat) : Good k (s.settle n) := by
  have hl := apps_length (s.chs.take n) s.safe
  rw [List.length_take] at hl
  have hls := h.ok.ls
  have hm := mem_apps (cs := s.chs.take n) (fun c hc => h.ok.cs c (List.mem_of_mem_take hc)) s.safe h.ok.ss
  exact ⟨⟨h.ok.fs, hm, fun c hc => (by cases hc), h.ok.r0, h.ok.r1, h.ok.u0, h.ok.u1, h.ok.ck, h.ok.f0, h.ok.f1, h.ok.nf, h.ok.lf, (by show (apps (s.chs.take n) s.safe).length + 0 ≤ _; omega), h.ok.sz, h.ok.sy⟩, sp_apps _ s.safe (fun c hc => h.ok.cs c (List.mem_of_mem_take hc)) h.sp.1, h.sp.2⟩
theorem Good.syncPaths {k : Nat} {s : St} (h : Good k s) : Good (k + 2) s.syncPaths.1 := by
  rw [syncPaths_eq]
  unfold syncR
  split
  · exact ((h.begin []).settle _).up (by omega)
  · exact (h.begin []).up (by omega)
theorem Good.free {k : Nat} {s : St} (h : Good k s) (hk : k ≤ 1000) (p : Str) : Good (k + 1) (s.free p) := ⟨h.ok.free hk p, by unfold Sp; rw [(free_same s p).2.2.2.2, (free_same s p).1]; exact h.sp⟩
theorem Good.rename {k : Nat} {s : St} (h : Good k s) (hk : k ≤ 1000) (p q : Str) (hp : p.length ≤ 10000) (hq : q.length ≤ 10000) : Good (k + 2) (s.rename p q).1 := by
  obtain ⟨s1, r, er, hf⟩ := found s p [q]
  have g := h.after hf
  rw [rename_eq s p q hf]
  unfold renameR
  cases r with
  | none => exact g.up (by omega)
  | some f =>
    simp only
    split
    · exact g.up (by omega)
    · refine (g.free hk q).record _ ⟨hp, hq, ?_⟩
      rw [(free_same s1 q).2.1]
      exact hf.lt h.ok f rfl
theorem Good.remove {k : Nat} {s : St} (h : Good k s) (hk : k ≤ 1000) (p : Str) (hp : p.length ≤ 10000) : Good (k + 2) (s.remove p).1 := by
  obtain ⟨s1, r, er, hf⟩ := found s p []
  have g := h.after hf
  rw [remove_eq s p hf]
  unfold removeR
  cases r with
  | none => exact g.up (by omega)
  | some f => exact (g.free hk p).record (.rm p) hp
theorem Good.read {k : Nat} {s : St} (h : Good k s) (p : Str) : Good k (s.read p).1 := by
  obtain ⟨s1, r, er, hf⟩ := found s p []
  have g := h.after hf
  rw [read_eq s p hf]
  unfold readR
  cases r <;> exact g
theorem Good.fuse {k : Nat} {s : St} (h : Good k s) (n : Int) (hn : n ≤ 9223372036854775807) : Good k (s.fuse_ n) :=
  ⟨⟨h.ok.fs, h.ok.ss, h.ok.cs, h.ok.r0, h.ok.r1, h.ok.u0, h.ok.u1, h.ok.ck, by show (-1 : Int) ≤ max n (-1); omega, by show max n (-1) ≤ _; omega, h.ok.nf, h.ok.lf, h.ok.ls, h.ok.sz, h.ok.sy⟩, h.sp⟩
theorem restores_safe (before : Dir) (parts : List Int) : ∀ (l : Dir) (i : Nat) (s : St), (St.restores before parts i l s).safe = s.safe
  | [], _, _ => rfl
  | (p, f) :: r, i, s => by
    show (St.restores before parts (i + 1) r _).safe = _
    rw [restores_safe before parts r (i + 1)]
    obtain ⟨st, _, _, _, _, e5, _⟩ := restore_facts s p f (look before p) (partAt parts i)
    exact e5
theorem Good.crash {k : Nat} {s : St} (h : Good k s) (hk : k + 1 ≤ 1000) (keep : Int) (parts : List Int) : Good (k + 2) (s.crash keep parts) := by
  refine (⟨h.ok.crash hk keep parts, ?_⟩ : Good (k + 1) _).up (by omega)
  rw [crash_eq]
  have hsp := sp_apps (s.chs.take (upTo keep (s.chs.length : Int)).toNat) s.safe (fun c hc => h.ok.cs c (List.mem_of_mem_take hc)) h.sp.1
  have hfl := ((h.ok.mid keep).restores (by omega) s.files parts (s.c3 keep).files _ (Nat.le_refl _)).2.1
  rw [List.take_length] at hfl
  refine ⟨?_, ?_⟩
  · show ∀ e ∈ (St.restores s.files parts 0 (s.c3 keep).files (s.c3 keep)).safe, e.1.length ≤ 10000
    rw [restores_safe]
    exact hsp
  · show ∀ e ∈ (St.restores s.files parts 0 (s.c3 keep).files (s.c3 keep)).files, e.1.length ≤ 10000
    rw [hfl]
    exact hsp
end Go.Proofs.Ytodnckflobefpaa

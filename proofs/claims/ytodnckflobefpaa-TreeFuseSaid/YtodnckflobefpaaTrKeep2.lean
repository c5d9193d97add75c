/- Package tree: the states that the law TreeKeeps goes through. -/
import Derived.Test.YtodnckflobefpaaTrKeep
namespace Go.Proofs.Ytodnckflobefpaa
open Go.RowKit Go.Maps
set_option linter.unusedVariables false

theorem make_idle {s : St} (h : Idle s) (p : Str) (hp : okP p = true) (hl : look s.files p = none) : s.make p = (St.record { s with fil := s.fil ++ [(⟨[], [], s.clock + 1⟩ : Fil)] } (.mk p s.fil.length), 0) := by
  unfold St.make
  rw [begin_idle h [p] (by simpa using hp)]
  simp only [if_pos, hl]
theorem rename_idle {s : St} (h : Idle s) (p q : Str) (hp : okP p = true) (hq : okP q = true) {f : Nat} (hl : look s.files p = some f) (hne : p ≠ q) : s.rename p q = ((s.free q).record (.mv p q f), 0) := by
  unfold St.rename
  rw [find_idle h p [q] (by simp [hp, hq]) hl]
  simp only
  rw [if_neg hne]
theorem restores_used (before : Dir) (parts : List Int) (M : Nat) : ∀ (l : Dir) (i : Nat) (s : St), (∀ e ∈ l, e.2 < s.fil.length ∧ (s.at_ e.2).sf = (s.at_ e.2).now ∧ (s.at_ e.2).now.length ≤ M) → (St.restores before parts i l s).used ≤ s.used + (M : Int) * (l.length : Int)
  | [], _, s, _ => by show s.used ≤ _; simp
  | (p, f) :: r, i, s, hl => by
    obtain ⟨st, e1, e2, _⟩ := restore_facts s p f (look before p) (partAt parts i)
    obtain ⟨hf, hsf, hM⟩ := hl (p, f) List.mem_cons_self
    simp only at hf hsf hM
    have hr : (s.at_ f).rem (partAt parts i) = (s.at_ f).now := by
      have hx : s.at_ f = ⟨(s.at_ f).now, (s.at_ f).now, (s.at_ f).st⟩ := by
        cases hq : s.at_ f with
        | mk a b c => rw [hq] at hsf; simp only at hsf; rw [hsf]
      conv => lhs; rw [hx]
      exact rem_same _ _ _
    rw [hr] at e1 e2
    have ih := restores_used before parts M r (i + 1) (s.restore p f (look before p) (partAt parts i)) (fun q hq => by
      obtain ⟨q1, q2, q3⟩ := hl q (List.mem_cons_of_mem _ hq)
      rw [set_at s _ f _ e1 hf q.2]
      refine ⟨by rw [e1, List.length_set]; exact q1, ?_⟩
      split
      · exact ⟨rfl, hM⟩
      · exact ⟨q2, q3⟩)
    refine Int.le_trans ih ?_
    rw [e2]
    simp only [List.length_cons]
    push_cast
    rw [Int.mul_add]
    omega

def fP : Str := [102]
def tP : Str := [46, 116, 109, 112, 47, 102]
theorem fP_ok : okP fP = true := by decide +kernel
theorem tP_ok : okP tP = true := by decide +kernel
def K0 : St := St.new 10000
def K1 : St := St.record { K0 with fil := K0.fil ++ [(⟨[], [], K0.clock + 1⟩ : Fil)] } (.mk fP K0.fil.length)
def K2 (a : Str) : St := K1.putB 0 a
def K3 (a : Str) : St := (K2 a).set_ 0 { (K2 a).at_ 0 with sf := ((K2 a).at_ 0).now }
def K4 (a : Str) : St := (K3 a).settle (K3 a).chs.length
def K5 (a : Str) : St := St.record { K4 a with fil := (K4 a).fil ++ [(⟨[], [], (K4 a).clock + 1⟩ : Fil)] } (.mk tP (K4 a).fil.length)
def K6 (a b : Str) : St := (K5 a).putB 1 b
def K7 (a b : Str) : St := (K6 a b).set_ 1 { (K6 a b).at_ 1 with sf := ((K6 a b).at_ 1).now }
def K8 (a b : Str) : St := ((K7 a b).free fP).record (.mv tP fP 1)
section
variable (a b : Str) (ha : a.length ≤ 300) (hb : b.length ≤ 300)
theorem K1e : K0.make fP = (K1, 0) := make_idle ⟨rfl, rfl⟩ fP fP_ok rfl
include ha in
theorem K2e : K1.write fP a = (K2 a, 0) := write_idle ⟨rfl, rfl⟩ fP a fP_ok (f := 0) (by decide +kernel) (by show ¬ ((a.length : Int) > max 0 (10000 - (0 - 0))); omega)
theorem K3e : (K2 a).sync fP = (K3 a, 0) := sync_idle ⟨rfl, rfl⟩ fP fP_ok (f := 0) (by show look K1.files fP = some 0; decide +kernel)
theorem K4e : (K3 a).syncPaths = (K4 a, 0) := syncPaths_idle ⟨rfl, rfl⟩
theorem K5e : (K4 a).make tP = (K5 a, 0) := make_idle ⟨rfl, rfl⟩ tP tP_ok (by show look K1.files tP = none; decide +kernel)
theorem K5l : look (K5 a).files tP = some 1 := by show look (Chg.app (.mk tP 1) K1.files) tP = some 1; decide +kernel
include ha hb in
theorem K6e : (K5 a).write tP b = (K6 a b, 0) := write_idle ⟨rfl, rfl⟩ tP b tP_ok (f := 1) (K5l a) (by show ¬ ((b.length : Int) > max 0 (10000 - ((0 + ((a.length : Int) - 0)) - 0))); omega)
theorem K7e : (K6 a b).sync tP = (K7 a b, 0) := sync_idle ⟨rfl, rfl⟩ tP tP_ok (f := 1) (K5l a)
theorem K8e : (K7 a b).rename tP fP = (K8 a b, 0) := rename_idle ⟨rfl, rfl⟩ tP fP tP_ok fP_ok (f := 1) (K5l a) (by decide)
theorem K7f : look (K7 a b).files fP = some 0 := by show look (Chg.app (.mk tP 1) K1.files) fP = some 0; decide +kernel
theorem K8fil : (K8 a b).fil = [⟨a, a, 2⟩, ⟨b, b, 4⟩] := by
  show ((K7 a b).free fP).fil = _
  unfold St.free
  rw [K7f]
  rfl
theorem K8chs : (K8 a b).chs = [.mk tP 1, .mv tP fP 1] := by
  show ((K7 a b).free fP).chs ++ [_] = _
  unfold St.free
  rw [K7f]
  rfl
theorem K8safe : (K8 a b).safe = [(fP, 0)] := by
  show ((K7 a b).free fP).safe = _
  unfold St.free
  rw [K7f]
  show apps [Chg.mk fP 0] [] = _
  decide +kernel
theorem K8room : (K8 a b).room = 10000 := by
  show ((K7 a b).free fP).room = _
  unfold St.free
  rw [K7f]
  rfl
theorem K8at0 : (K8 a b).at_ 0 = ⟨a, a, 2⟩ := by unfold St.at_; rw [K8fil]; rfl
theorem K8at1 : (K8 a b).at_ 1 = ⟨b, b, 4⟩ := by unfold St.at_; rw [K8fil]; rfl

/-- What the first crash leaves. -/
structure Left1 (a b : Str) (s : St) (g : Nat) (v : Str) (tm : Bool) : Prop where
  idle : Idle s
  fl : look s.files fP = some g
  tl : (s.stat tP).2.2 = tm
  all : ∀ e ∈ s.files, e.2 < s.fil.length ∧ look s.files e.1 = some e.2 ∧ (s.at_ e.2).sf = (s.at_ e.2).now
  now : (s.at_ g).now = v
  vl : v.length ≤ 300
  lt : g < s.fil.length
  chs : s.chs = []
  safe : s.safe = s.files
  room : s.room = 10000
  used : s.used ≤ 600
include ha hb in
theorem crash_left1 (keep : Int) (parts : List Int) (l : Dir) (g : Nat) (v : Str) (tm : Bool) (hk : kept (K8 a b) keep = l) (h1 : look l fP = some g) (h2 : (look l tP).isSome = tm) (h3 : ∀ e ∈ l, e.2 < 2 ∧ look l e.1 = some e.2) (h4 : l.length ≤ 2) (hg : g = 0 ∧ v = a ∨ g = 1 ∧ v = b) :
    Left1 a b ((K8 a b).crash keep parts) g v tm := by
  have A := after_crash (K8 a b) keep parts
  have hlen : (K8 a b).fil.length = 2 := by rw [K8fil]; rfl
  have hf : ((K8 a b).crash keep parts).files = l := A.files.trans hk
  have hl : ∀ e ∈ kept (K8 a b) keep, e.2 < (K8 a b).fil.length := by rw [hk, hlen]; exact fun e he => (h3 e he).1
  have p0 := crash_at keep parts 0 a hl (by rw [K8at0]) (by rw [K8at0])
  have p1 := crash_at keep parts 1 b hl (by rw [K8at1]) (by rw [K8at1])
  have hat : ∀ i, i < 2 → (((K8 a b).crash keep parts).at_ i).sf = (((K8 a b).crash keep parts).at_ i).now := fun i hi => by
    rcases (show i = 0 ∨ i = 1 by omega) with rfl | rfl
    · rw [p0.1, p0.2]
    · rw [p1.1, p1.2]
  refine ⟨A.idle, by rw [hf]; exact h1, ?_, ?_, ?_, ?_, ?_, A.chs, by rw [A.safe, A.files], by rw [A.room, K8room], ?_⟩
  · unfold St.stat
    rw [hf]
    cases e : look l tP with
    | none => rw [e] at h2; exact h2
    | some x => rw [e] at h2; exact h2
  · intro e he
    rw [hf] at he ⊢
    rw [A.len, hlen]
    exact ⟨(h3 e he).1, (h3 e he).2, hat _ (h3 e he).1⟩
  · rcases hg with ⟨rfl, rfl⟩ | ⟨rfl, rfl⟩
    · exact p0.1
    · exact p1.1
  · rcases hg with ⟨-, rfl⟩ | ⟨-, rfl⟩ <;> assumption
  · rw [A.len, hlen]; omega
  · rw [crash_eq]
    show (St.restores (K8 a b).files parts 0 ((K8 a b).c3 keep).files ((K8 a b).c3 keep)).used ≤ 600
    have hcf : ((K8 a b).c3 keep).files = l := hk
    have := restores_used (K8 a b).files parts 300 ((K8 a b).c3 keep).files 0 ((K8 a b).c3 keep) (fun e he => by
      rw [hcf] at he
      have h5 := (h3 e he).1
      refine ⟨by show e.2 < (K8 a b).fil.length; omega, ?_⟩
      show ((K8 a b).at_ e.2).sf = ((K8 a b).at_ e.2).now ∧ ((K8 a b).at_ e.2).now.length ≤ 300
      rcases (show e.2 = 0 ∨ e.2 = 1 by omega) with h6 | h6 <;> rw [h6]
      · rw [K8at0]; exact ⟨rfl, ha⟩
      · rw [K8at1]; exact ⟨rfl, hb⟩)
    refine Int.le_trans this ?_
    rw [hcf]
    show (0 : Int) + _ ≤ _
    omega
include ha hb in
theorem left1 (keep : Int) (parts : List Int) :
    (max 0 keep % 3 = 0 ∧ Left1 a b ((K8 a b).crash keep parts) 0 a false) ∨ (max 0 keep % 3 = 1 ∧ Left1 a b ((K8 a b).crash keep parts) 0 a true) ∨ (max 0 keep % 3 = 2 ∧ Left1 a b ((K8 a b).crash keep parts) 1 b false) := by
  have hk : kept (K8 a b) keep = apps ([Chg.mk tP 1, Chg.mv tP fP 1].take (max 0 keep % 3).toNat) [(fP, 0)] := by
    unfold kept upTo
    rw [K8chs, K8safe]
    rfl
  rcases (show max 0 keep % 3 = 0 ∨ max 0 keep % 3 = 1 ∨ max 0 keep % 3 = 2 by omega) with h | h | h
  · rw [h] at hk
    exact .inl ⟨h, crash_left1 a b ha hb keep parts [(fP, 0)] 0 a false (hk.trans (by decide +kernel)) (by decide +kernel) (by decide +kernel) (by decide +kernel) (by decide) (.inl ⟨rfl, rfl⟩)⟩
  · rw [h] at hk
    exact .inr (.inl ⟨h, crash_left1 a b ha hb keep parts [(tP, 1), (fP, 0)] 0 a true (hk.trans (by decide +kernel)) (by decide +kernel) (by decide +kernel) (by decide +kernel) (by decide) (.inl ⟨rfl, rfl⟩)⟩)
  · rw [h] at hk
    exact .inr (.inr ⟨h, crash_left1 a b ha hb keep parts [(fP, 1)] 1 b false (hk.trans (by decide +kernel)) (by decide +kernel) (by decide +kernel) (by decide +kernel) (by decide) (.inr ⟨rfl, rfl⟩)⟩)
end
/-- What follows the first crash. -/
structure Rest (s : St) (g : Nat) (v c : Str) (s1 s2 s3 : St) (st : Nat) : Prop where
  read : s.read fP = (s, v, 0)
  app : s.append_ fP c = (s1, 0)
  syn : s1.sync fP = (s2, 0)
  syp : s2.syncPaths = (s3, 0)
  stat : s3.stat fP = (((v ++ c).length : Int), st, true)
  aft : ∀ keep parts, (s3.crash keep parts).stat fP = (((v ++ c).length : Int), st, true) ∧ ((s3.crash keep parts).read fP) = (s3.crash keep parts, v ++ c, 0)
theorem rest_of {a b : Str} {s : St} {g : Nat} {v : Str} {tm : Bool} (h : Left1 a b s g v tm) (c : Str) (hc : c.length ≤ 300) : ∃ s1 s2 s3 st, Rest s g v c s1 s2 s3 st := by
  have i1 : Idle (s.putB g ((s.at_ g).now ++ c)) := ⟨h.idle.off, h.idle.fuse⟩
  have e1 : (s.putB g ((s.at_ g).now ++ c)).at_ g = { s.at_ g with now := (s.at_ g).now ++ c, st := s.clock + 1 } := by
    rw [set_at s _ g _ rfl h.lt g, if_pos rfl]
  have l1 : g < (s.putB g ((s.at_ g).now ++ c)).fil.length := by show g < (s.fil.set g _).length; rw [List.length_set]; exact h.lt
  obtain ⟨s1, hs1⟩ : ∃ s1, s.putB g ((s.at_ g).now ++ c) = s1 := ⟨_, rfl⟩
  have f1 : s1.files = s.files := by rw [← hs1]; rfl
  have c1 : s1.chs = [] := by rw [← hs1]; exact h.chs
  have sa1 : s1.safe = s.files := by rw [← hs1]; exact h.safe
  have o1 : ∀ j, j ≠ g → s1.at_ j = s.at_ j := fun j hj => by rw [← hs1, set_at s _ g _ rfl h.lt j, if_neg hj]
  have n1 : s1.fil.length = s.fil.length := by rw [← hs1]; show (s.fil.set g _).length = _; rw [List.length_set]
  rw [hs1] at i1 e1 l1
  obtain ⟨s2, hs2⟩ : ∃ s2, s1.set_ g { s1.at_ g with sf := (s1.at_ g).now } = s2 := ⟨_, rfl⟩
  have e2 : s2.at_ g = ⟨v ++ c, v ++ c, s.clock + 1⟩ := by
    rw [← hs2, set_at s1 _ g _ rfl l1 g, if_pos rfl, e1, h.now]
  have f2 : s2.files = s.files := by rw [← hs2]; exact f1
  have c2 : s2.chs = [] := by rw [← hs2]; exact c1
  have sa2 : s2.safe = s.files := by rw [← hs2]; exact sa1
  have o2 : ∀ j, j ≠ g → s2.at_ j = s.at_ j := fun j hj => by rw [← hs2, set_at s1 _ g _ rfl l1 j, if_neg hj, o1 j hj]
  have n2 : s2.fil.length = s.fil.length := by rw [← hs2]; show (s1.fil.set g _).length = _; rw [List.length_set, n1]
  have i2 : Idle s2 := by rw [← hs2]; exact ⟨i1.off, i1.fuse⟩
  have s3f : (s2.settle s2.chs.length).files = s.files := f2
  have s3s : (s2.settle s2.chs.length).safe = s.files := by
    show apps (s2.chs.take _) s2.safe = _
    rw [c2, List.take_nil, sa2]
    rfl
  have hst : (s2.settle s2.chs.length).stat fP = (((v ++ c).length : Int), s.clock + 1, true) := by
    unfold St.stat
    rw [s3f, h.fl]
    show ((((s2.at_ g).now.length : Nat) : Int), (s2.at_ g).st, true) = _
    rw [e2]
  refine ⟨s1, s2, s2.settle s2.chs.length, s.clock + 1, ?_, ?_, ?_, syncPaths_idle i2, hst, ?_⟩
  · rw [read_idle h.idle fP fP_ok h.fl, h.now]
  · rw [append_idle h.idle fP c fP_ok h.fl ?_, hs1]
    unfold St.left_
    rw [h.room]
    have := h.used
    omega
  · rw [sync_idle i1 fP fP_ok (f := g) (by rw [f1]; exact h.fl), hs2]
  · intro keep parts
    have C := crash_calm (s := s2.settle s2.chs.length) keep parts rfl (s3s.trans s3f.symm) (fun e he => by
      rw [s3f] at he ⊢
      obtain ⟨q1, q2, q3⟩ := h.all e he
      refine ⟨by show e.2 < s2.fil.length; rw [n2]; exact q1, q2, ?_⟩
      show (s2.at_ e.2).sf = (s2.at_ e.2).now
      by_cases hg : e.2 = g
      · rw [hg, e2]
      · rw [o2 _ hg]; exact q3)
    have A := after_crash (s2.settle s2.chs.length) keep parts
    have hl : look ((s2.settle s2.chs.length).crash keep parts).files fP = some g := by rw [C.1, s3f]; exact h.fl
    refine ⟨?_, ?_⟩
    · rw [← hst]
      unfold St.stat
      rw [C.1]
      have := C.2
      simp only [this]
    · rw [read_idle A.idle fP fP_ok hl, C.2]
      show (_, (s2.at_ g).now, _) = _
      rw [e2]
end Go.Proofs.Ytodnckflobefpaa

/- Package tree: the bounds that k calls keep. -/
import Derived.Test.YtodnckflobefpaaTrPure
namespace Go.Proofs.Ytodnckflobefpaa
open Go.Maps
set_option linter.unusedVariables false

def Chg.small (n : Nat) : Chg → Prop
  | .mk p f => p.length ≤ 10000 ∧ f < n
  | .mv p q f => p.length ≤ 10000 ∧ q.length ≤ 10000 ∧ f < n
  | .rm p => p.length ≤ 10000
structure Ok (k : Nat) (s : St) : Prop where
  fs : ∀ e ∈ s.files, e.2 < s.fil.length
  ss : ∀ e ∈ s.safe, e.2 < s.fil.length
  cs : ∀ c ∈ s.chs, c.small s.fil.length
  r0 : 0 ≤ s.room
  r1 : s.room ≤ 67108864
  u0 : -(10000000000 * (k : Int)) ≤ s.used
  u1 : s.used ≤ 10000000000 * (k : Int)
  ck : s.clock ≤ 10000 * k
  f0 : -1 ≤ s.fuse
  f1 : s.fuse ≤ 9223372036854775807
  nf : s.fil.length ≤ k
  lf : s.files.length ≤ k
  ls : s.safe.length + s.chs.length ≤ k
  sz : ∀ i, (s.at_ i).now.length ≤ 10000 * k
  sy : ∀ i, (s.at_ i).sf.length ≤ 10000 * k
theorem Ok.burn {k : Nat} {s : St} (h : Ok k s) : Ok k s.burn :=
  ⟨h.fs, h.ss, h.cs, h.r0, h.r1, h.u0, h.u1, h.ck, by show -1 ≤ max (s.fuse - 1) (-1); omega, by have := h.f0; have := h.f1; show max (s.fuse - 1) (-1) ≤ _; omega, h.nf, h.lf, h.ls, h.sz, h.sy⟩
theorem Ok.begin {k : Nat} {s : St} (h : Ok k s) (ps : List Str) : Ok k (s.begin_ ps).1 := by
  unfold St.begin_
  split
  · split <;> exact h.burn
  · exact h
theorem Ok.find {k : Nat} {s : St} (h : Ok k s) (p : Str) (o : List Str) : Ok k (s.find p o).1 := by
  have := h.begin (o ++ [p])
  unfold St.find
  generalize s.begin_ (o ++ [p]) = r at *
  obtain ⟨s1, e⟩ := r
  simp only at this ⊢
  split
  · split <;> exact this
  · exact this
theorem Ok.more {k : Nat} {s : St} (h : Ok k s) : Ok (k + 1) s :=
  ⟨h.fs, h.ss, h.cs, h.r0, h.r1, by have := h.u0; omega, by have := h.u1; omega, by have := h.ck; omega, h.f0, h.f1, by have := h.nf; omega, by have := h.lf; omega, by have := h.ls; omega, fun i => by have := h.sz i; omega, fun i => by have := h.sy i; omega⟩
theorem Ok.free {k : Nat} {s : St} (h : Ok k s) (hk : k ≤ 1000) (p : Str) : Ok (k + 1) (s.free p) := by
  unfold St.free
  split
  · exact h.more
  · rename_i f _
    have hz := h.sz f
    exact ⟨h.fs, h.ss, h.cs, h.r0, h.r1, by have := h.u0; show _ ≤ s.used - _; omega, by have := h.u1; show s.used - _ ≤ _; omega, by have := h.ck; show s.clock ≤ _; omega, h.f0, h.f1, by have := h.nf; show s.fil.length ≤ _; omega,
      by have := h.lf; show s.files.length ≤ _; omega, by have := h.ls; show s.safe.length + s.chs.length ≤ _; omega, fun i => by have := h.sz i; show (s.at_ i).now.length ≤ _; omega, fun i => by have := h.sy i; show (s.at_ i).sf.length ≤ _; omega⟩
theorem free_same (s : St) (p : Str) : (s.free p).files = s.files ∧ (s.free p).fil = s.fil ∧ (s.free p).clock = s.clock ∧ (s.free p).chs = s.chs ∧ (s.free p).safe = s.safe := by
  unfold St.free
  split <;> exact ⟨rfl, rfl, rfl, rfl, rfl⟩
end Go.Proofs.Ytodnckflobefpaa

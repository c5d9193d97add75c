/- Package tree: what TreeFuse asks of two trees after each call. -/
import Derived.Test.YtodnckflobefpaaTrTwo
namespace Go.Proofs.Ytodnckflobefpaa
open Go.RowKit Go.Maps
set_option linter.unusedVariables false

def PathsPost (PL : List Str) (W : World) (e : Ending) (w' : World) : Prop := (∃ A n c, e = .returned (.slice A n c) ∧ Strs w' A n PL ∧ ∀ j o, A = some ⟨j, o, none⟩ → W.heap.size ≤ j) ∧ Nx W w'
def StatPost (d : Nat) (W : World) (e : Ending) (w' : World) : Prop := (∃ u : Nat, e = .returned (.tuple #[.int .i64 (d : Int), .int .u64 (u : Int), .bool true])) ∧ Nx W w'
theorem liv_paths2 {w W : World} {t k : Nat} {s : St} (h : Liv w t s k W) (hk : k + 1 ≤ 1000) (q : Str) :
    Calls Try.prog 23 #[.pointer (some ⟨t, 0, none⟩), .string (S q)] W (PathsPost (s.paths q) W) := by
  obtain ⟨g, hT, h0⟩ := h.ex
  refine (paths_any W t s g (by omega) hT h.good.ok h.good.sp.2 q).mono fun e w' ⟨A, n, c, e1, e2, e3⟩ => ⟨⟨A, n, c, e1, e2.strs ?_, fun j o e => ?_⟩, e3⟩
  · have h1 := e2.1
    have h2 : (s.paths q).length ≤ s.files.length := by unfold St.paths; have := List.length_filter_le (fun p => q.isPrefixOf p) (s.files.map (·.1)); rw [List.length_map] at this; exact this
    have h3 := h.good.ok.lf
    simp only [strV, List.length_map] at h1
    omega
  · rcases e2.2 with ⟨hv, _⟩ | ⟨g2, cap, cur, hv, hb, _⟩
    · simp only [Value.slice.injEq] at hv
      rw [hv.1] at e; cases e
    · simp only [Value.slice.injEq] at hv
      rw [hv.1] at e
      simp only [Option.some.injEq, Addr.mk.injEq] at e
      omega
theorem Strs.kept {W0 W w' : World} {A : Option Addr} {n : Nat} {ps : List Str} (h : Strs W A n ps) (hA : ∀ j o, A = some ⟨j, o, none⟩ → W0.heap.size ≤ j) (hs : W.heap.size ≤ w'.heap.size) (hX : ∀ X, W0.heap.size ≤ X → X < W.heap.size → w'.heap[X]? = W.heap[X]?) : Strs w' A n ps := ⟨h.len, h.le, fun hn => by
  obtain ⟨b, e, hb, hc⟩ := h.at_ hn
  exact ⟨b, e, Nat.lt_of_lt_of_le hb hs, fun j hj => by rw [World.cell?_of_block (hX b (hA b 0 e) hb)]; exact hc j hj⟩⟩
theorem tail_of {w : World} {ta tb k : Nat} {sa sb : St} (hA : Acc sa) (offv : Bool) (e1 : sb.files = sa.files) (e2 : sb.room = sa.room) (e3 : sb.used = sa.used) (e4 : sb.off = offv) (hk : k + 1 ≤ 1000) : ∃ (PL : List Str) (C : Nat → Nat), C 0 = 0 ∧ (∀ j, C j ≤ 5000) ∧
    (∀ W, Liv2 w ta sa k tb sb k W → Calls Try.prog 23 #[.pointer (some ⟨ta, 0, none⟩), .string ⟨#[]⟩] W (PathsPost PL W)) ∧
    (∀ W, Liv2 w ta sa k tb sb k W → Calls Try.prog 23 #[.pointer (some ⟨tb, 0, none⟩), .string ⟨#[]⟩] W (PathsPost PL W)) ∧
    (∀ W, Liv2 w ta sa k tb sb k W → Calls Try.prog 16 #[.pointer (some ⟨ta, 0, none⟩)] W fun e w' => e = .returned (.int .i64 (5000 - (C PL.length : Int))) ∧ W = w') ∧
    (∀ W, Liv2 w ta sa k tb sb k W → Calls Try.prog 16 #[.pointer (some ⟨tb, 0, none⟩)] W fun e w' => e = .returned (.int .i64 (5000 - (C PL.length : Int))) ∧ W = w') ∧
    (∀ W, Liv2 w ta sa k tb sb k W → Calls Try.prog 19 #[.pointer (some ⟨tb, 0, none⟩)] W fun e w' => e = .returned (.bool (!offv)) ∧ W = w') ∧
    ∀ j, j < PL.length → ∃ d, C (j + 1) = C j + d ∧ ∀ W, Liv2 w ta sa k tb sb k W → Calls Try.prog 21 #[.pointer (some ⟨ta, 0, none⟩), .string (S (PL.getD j []))] W (StatPost d W) := by
  obtain ⟨C, c0, cN, cle, cst⟩ := tail_facts hA
  have hlen : (sa.paths []).length = sa.files.length := by rw [paths_all]; simp
  have hpb : sb.paths [] = sa.paths [] := by unfold St.paths; rw [e1]
  have hla : sa.left_ sa.used = 5000 - (C (sa.paths []).length : Int) := by
    rw [hlen, cN]
    unfold St.left_
    have := hA.used
    have := hA.room
    have := hA.le
    omega
  have hlb : sb.left_ sb.used = sa.left_ sa.used := by unfold St.left_; rw [e2, e3]
  refine ⟨sa.paths [], C, c0, cle, fun W h => liv_paths2 h.a hk [], fun W h => by rw [← hpb]; exact liv_paths2 h.b hk [], fun W h => by rw [← hla]; exact liv_left h.a hk, fun W h => by rw [← hla, ← hlb]; exact liv_left h.b hk, fun W h => by rw [← e4]; exact liv_on h.b, fun j hj => ?_⟩
  rw [hlen] at hj
  obtain ⟨d, u, h1, h2⟩ := cst j hj
  refine ⟨d, h2, fun W h => ?_⟩
  have hpl : ((sa.paths []).getD j []).length ≤ 10000 := by
    rw [paths_all]
    have he : (sa.files.map (·.1)).getD j [] = sa.files[j].1 := by simp [List.getD, hj]
    rw [he]
    exact h.ga.sp.2 _ (List.getElem_mem hj)
  have := liv_stat_drew h.a ((sa.paths []).getD j []) hpl
  rw [h1] at this
  exact this.mono fun e w' ⟨a, m, b⟩ => ⟨⟨u, a⟩, by rw [b]; exact Nx.drewN (Nx.refl _) m⟩
end Go.Proofs.Ytodnckflobefpaa

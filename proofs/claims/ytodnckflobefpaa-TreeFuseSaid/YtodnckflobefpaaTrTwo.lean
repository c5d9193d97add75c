/- Package tree: two trees that the call has made. -/
import Derived.Test.YtodnckflobefpaaTrUse
import Derived.Test.YtodnckflobefpaaTrStamps
namespace Go.Proofs.Ytodnckflobefpaa
open Go.RowKit Go.Maps
set_option linter.unusedVariables false

structure Liv2 (w : World) (ta : Nat) (sa : St) (ka tb : Nat) (sb : St) (kb : Nat) (W : World) : Prop where
  ex : ∃ ga gb, TreeAt W ta sa ga ∧ TreeAt W tb sb gb ∧ (∀ j, ga.tag j ≠ 0 → gb.tag j = 0) ∧ (∀ j, ga.tag j ≠ 0 → w.heap.size ≤ j) ∧ ∀ j, gb.tag j ≠ 0 → w.heap.size ≤ j
  nx : Nx w W
  ga : Good ka sa
  gb : Good kb sb
section
variable {w W W0 : World} {ta tb ka kb : Nat} {sa sb : St}
theorem Liv2.swap (h : Liv2 w ta sa ka tb sb kb W) : Liv2 w tb sb kb ta sa ka W := by
  obtain ⟨ga, gb, h1, h2, h3, h4, h5⟩ := h.ex
  exact ⟨⟨gb, ga, h2, h1, (fun j e => Decidable.byContradiction fun x => e (h3 j x)), h5, h4⟩, h.nx, h.gb, h.ga⟩
theorem Liv2.next (h : Liv2 w ta sa ka tb sb kb W0) (hn : Nx W0 W) : Liv2 w ta sa ka tb sb kb W := by
  obtain ⟨ga, gb, h1, h2, h3, h4, h5⟩ := h.ex
  exact ⟨⟨ga, gb, h1.nx hn, h2.nx hn, h3, h4, h5⟩, h.nx.trans hn, h.ga, h.gb⟩
theorem Liv2.up {m : Nat} (h : Liv2 w ta sa ka tb sb kb W) (ha : ka ≤ m) (hb : kb ≤ m) : Liv2 w ta sa m tb sb m W := ⟨h.ex, h.nx, h.ga.up ha, h.gb.up hb⟩
theorem Liv2.a (h : Liv2 w ta sa ka tb sb kb W) : Liv w ta sa ka W := by
  obtain ⟨ga, gb, h1, h2, h3, h4, h5⟩ := h.ex
  exact ⟨⟨ga, h1, h4⟩, h.nx, h.ga⟩
theorem Liv2.b (h : Liv2 w ta sa ka tb sb kb W) : Liv w tb sb kb W := h.swap.a
theorem liv2_a {f : FuncId} {args : Array Value} {v : Value} {s' : St} {k' : Nat} (h : Liv2 w ta sa ka tb sb kb W0) (hn : Nx W0 W) (hg : Good k' s')
    (hc : ∀ g, TreeAt W ta sa g → Calls Try.prog f args W fun e w' => e = .returned v ∧ ∃ g', TreeAt w' ta s' g' ∧ Chd (Mine g) W w' ∧ Gh.le W g g') :
    Calls Try.prog f args W fun e w' => e = .returned v ∧ Liv2 w ta s' k' tb sb kb w' ∧ W.heap.size ≤ w'.heap.size ∧ ∀ X, W0.heap.size ≤ X → X < W.heap.size → w'.heap[X]? = W.heap[X]? := by
  obtain ⟨ga, gb, h1, h2, h3, h4, h5⟩ := h.ex
  have hs := hn.size
  have hw := h.nx.size
  refine (hc ga (h1.nx hn)).mono ?_
  rintro e w' ⟨he, g', hT', hC, hle⟩
  refine ⟨he, ⟨⟨g', gb, hT', (h2.nx hn).chd hC (fun j e => h3 j e), fun j hj => ?_, fun j hj => ?_, h5⟩, ?_, hg, h.gb⟩, hC.size, fun X hX1 hX2 => hC.block X hX2 (fun e => e (new_zero h1 hX1))⟩
  · rcases hle j hj with h' | h'
    · exact h3 j h'
    · exact new_zero (h2.nx hn) h'
  · rcases hle j hj with h' | h'
    · exact h4 j h'
    · omega
  · have c : Chd (fun _ => False) w w' := (Chd.of_below (h.nx.trans hn)).then_ hC (fun j hj e => by have := h4 j e; omega)
    exact c.below (Nat.le_refl _) (fun _ _ e => e)
theorem liv2_call (h : Liv2 w ta sa ka tb sb kb W0) (hn : Nx W0 W) (hk : ka + 1 ≤ 1000) (a : Ac) (b : Str) (ps : List Int) (hf : a.fits)
    (hk1 : -9223372036854775808 ≤ a.K) (hk2 : a.K ≤ 9223372036854775807) (hN : a.N ≤ 9223372036854775807) (hb : Arg w a.A a.n a.c b) (hp : Nums w a.A4 a.n4 a.c4 ps) :
    Calls Try.prog 22 #[.pointer (some ⟨ta, 0, none⟩), .agg a.cs] W fun e w' => e = .returned (Ans (sa.act a b ps).2.1 (sa.act a b ps).2.2) ∧ Liv2 w ta (sa.act a b ps).1 (ka + 2) tb sb kb w' ∧ W.heap.size ≤ w'.heap.size ∧ ∀ X, W0.heap.size ≤ X → X < W.heap.size → w'.heap[X]? = W.heap[X]? :=
  liv2_a h hn (h.ga.act hk a b ps hf hb.len hN) fun g hT => call_at W ta sa g hk hT h.ga a b ps hf hk1 hk2 hN (hb.nx (h.nx.trans hn)) (hp.nx (h.nx.trans hn))
theorem liv2_new (h : Liv w ta sa ka W) (room : Int) (h0 : 0 ≤ room) (h1 : room ≤ 67108864) :
    Calls Try.prog 8 #[.int .i64 room] W fun e w' => ∃ tb, e = .returned (.tuple #[.pointer (some ⟨tb, 0, none⟩), .int .i64 0]) ∧ Liv2 w ta sa ka tb (St.new room) 0 w' := by
  obtain ⟨g, hT, h4⟩ := h.ex
  have hw := h.nx.size
  refine (new_any W room h0 h1).mono ?_
  rintro e w' ⟨e1, e2, e3⟩
  refine ⟨_, e1, ⟨g, _, hT.nx e3, e2, fun j hj => ?_, h4, fun j hj => ?_⟩, h.nx.trans e3, h.good, Good.new room h0 h1⟩
  · refine Decidable.byContradiction fun x => ?_
    have := hT.dom j hj
    have := (new_le _ _ x).1
    omega
  · have := (new_le _ _ hj).1
    omega
theorem liv2_fuse (h : Liv2 w ta sa ka tb sb kb W) (n : Int) (hn : n ≤ 9223372036854775807) :
    Calls Try.prog 17 #[.pointer (some ⟨tb, 0, none⟩), .int .i64 n] W fun e w' => e = .returned (.int .i64 0) ∧ Liv2 w ta sa ka tb (sb.fuse_ n) kb w' :=
  (liv2_a h.swap (Nx.refl _) (h.gb.fuse n hn) fun g hT => (fuse_any W tb sb g hT n).mono fun e w' ⟨e1, e2, e3⟩ => ⟨e1, g, e2, e3.mono fun j _ x => by rw [x]; show g.tag tb ≠ 0; rw [hT.topT]; omega, Gh.le_refl _ _⟩).mono fun e w' ⟨e1, e2, _, _⟩ => ⟨e1, e2.swap⟩
theorem liv_stat_drew {t k : Nat} {s : St} (h : Liv w t s k W) (p : Str) (hp : p.length ≤ 10000) :
    Calls Try.prog 21 #[.pointer (some ⟨t, 0, none⟩), .string (S p)] W fun e w' => e = .returned (.tuple #[.int .i64 (s.stat p).1, .int .u64 ((s.stat p).2.1 : Int), .bool (s.stat p).2.2]) ∧ ∃ m, w' = W.drewN m := by
  obtain ⟨g, hT, h0⟩ := h.ex
  exact stat_any W t s g hT h.good.ok p (by omega)
end

theorem paths_all (s : St) : s.paths [] = s.files.map (·.1) := by
  unfold St.paths
  rw [List.filter_eq_self]
  intro p _
  rfl
theorem sz_append (s : St) (l r : Dir) : sz s (l ++ r) = sz s l + sz s r := by unfold sz; simp
theorem look_get : ∀ {l : Dir}, PsA l → ∀ {j : Nat} {e : Str × Nat}, l[j]? = some e → look l e.1 = some e.2
  | [], _, j, e, he => by simp at he
  | x :: r, h, 0, e, he => by
    simp only [List.getElem?_cons_zero, Option.some.injEq] at he
    subst he
    unfold look
    simp
  | x :: r, h, j + 1, e, he => by
    simp only [List.getElem?_cons_succ] at he
    unfold PsA at h
    rw [List.pairwise_cons] at h
    have hne := h.1 e (List.mem_of_getElem? he)
    have ih := look_get (l := r) h.2 he
    unfold look at ih ⊢
    rw [List.find?_cons_of_neg (by simp [hne])]
    exact ih
/-- The sizes of the first j files, together. -/
theorem tail_facts {s : St} (h : Acc s) : ∃ C : Nat → Nat, C 0 = 0 ∧ C s.files.length = sz s s.files ∧ (∀ j, C j ≤ 5000) ∧ ∀ j, j < s.files.length → ∃ d u, s.stat ((s.paths []).getD j []) = (((d : Nat) : Int), u, true) ∧ C (j + 1) = C j + d := by
  refine ⟨fun j => sz s (s.files.take j), by simp [sz], by simp, fun j => ?_, fun j hj => ?_⟩
  · have := sz_append s (s.files.take j) (s.files.drop j)
    rw [List.take_append_drop] at this
    have := h.le
    show sz s (s.files.take j) ≤ 5000
    omega
  · have he : s.files[j]? = some s.files[j] := List.getElem?_eq_getElem hj
    have hp : (s.paths []).getD j [] = s.files[j].1 := by rw [paths_all]; simp [List.getD, hj]
    refine ⟨(s.at_ s.files[j].2).now.length, (s.at_ s.files[j].2).st, ?_, ?_⟩
    · rw [hp]
      unfold St.stat
      rw [look_get h.ps he]
    · show sz s (s.files.take (j + 1)) = sz s (s.files.take j) + _
      rw [List.take_succ_eq_append_getElem hj, sz_append, sz_cons]
      simp [sz]
end Go.Proofs.Ytodnckflobefpaa

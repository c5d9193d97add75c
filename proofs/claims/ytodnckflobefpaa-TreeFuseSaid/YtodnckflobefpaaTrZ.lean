/- Package tree: one tree that the call has made: what each of its calls does, with the tree's blocks out of sight. -/
import Derived.Test.YtodnckflobefpaaTrY
namespace Go.Proofs.Ytodnckflobefpaa
open Go.RowKit Go.Maps
set_option linter.unusedVariables false

/-- In W lies a tree in the state s, in blocks made since w; what was there in w is as it was. -/
structure Liv (w : World) (tb : Nat) (s : St) (k : Nat) (W : World) : Prop where
  ex : ∃ g, TreeAt W tb s g ∧ ∀ j, g.tag j ≠ 0 → w.heap.size ≤ j
  nx : Nx w W
  good : Good k s
section
variable {w W0 W : World} {tb k : Nat} {s : St}
theorem Liv.next (h : Liv w tb s k W0) (hn : Nx W0 W) : Liv w tb s k W := by
  obtain ⟨g, hT, h0⟩ := h.ex
  exact ⟨⟨g, hT.nx hn, h0⟩, h.nx.trans hn, h.good⟩
theorem Liv.drewN (h : Liv w tb s k W0) (m : Nat) : Liv w tb s k (W0.drewN m) := h.next (Nx.drewN (Nx.refl _) _)
theorem liv_of {f : FuncId} {args : Array Value} {v : Value} {s' : St} {k' : Nat} (h : Liv w tb s k W0) (hn : Nx W0 W) (hg : Good k' s')
    (hc : ∀ g, TreeAt W tb s g → (∀ j, W0.heap.size ≤ j → g.tag j = 0) → Calls Try.prog f args W fun e w' => e = .returned v ∧ ∃ g', TreeAt w' tb s' g' ∧ Chd (Mine g) W w' ∧ Gh.le W g g') :
    Calls Try.prog f args W fun e w' => e = .returned v ∧ Liv w tb s' k' w' := by
  obtain ⟨g, hT, h0⟩ := h.ex
  refine (hc g (hT.nx hn) (fun j hj => new_zero hT hj)).mono ?_
  rintro e w' ⟨he, g', hT', hC, hle⟩
  have hs := (h.nx.trans hn).size
  refine ⟨he, ⟨g', hT', fun j hj => ?_⟩, ?_, hg⟩
  · rcases hle j hj with h1 | h1
    · exact h0 j h1
    · omega
  · have c : Chd (fun _ => False) w w' := (Chd.of_below (h.nx.trans hn)).then_ hC (fun j hj e => by have := h0 j e; omega)
    exact c.below (Nat.le_refl _) (fun _ _ e => e)
theorem liv_tb {f : FuncId} {args : Array Value} {R : Ending → World → Prop} {s' : St} {k' : Nat} (h : Liv w tb s k W0) (hn : Nx W0 W) (hg : Good k' s')
    (hc : ∀ g, TreeAt W tb s g → Calls Try.prog f args W fun e w' => R e w' ∧ TreeAt w' tb s' g ∧ Chd (fun j => j = tb) W w') :
    Calls Try.prog f args W fun e w' => R e w' ∧ Liv w tb s' k' w' := by
  obtain ⟨g, hT, h0⟩ := h.ex
  refine (hc g (hT.nx hn)).mono ?_
  rintro e w' ⟨he, hT', hC⟩
  refine ⟨he, ⟨g, hT', h0⟩, ?_, hg⟩
  have c : Chd (fun _ => False) w w' := (Chd.of_below (h.nx.trans hn)).then_ hC (fun j hj e => by
    have := h0 tb (by rw [hT.topT]; omega)
    omega)
  exact c.below (Nat.le_refl _) (fun _ _ e => e)

theorem liv_make (h : Liv w tb s k W) (hk : k + 1 ≤ 1000) (p : Str) (hp : p.length ≤ 10000) :
    Calls Try.prog 10 #[.pointer (some ⟨tb, 0, none⟩), .string (S p)] W fun e w' => e = .returned (.int .i64 (s.make p).2) ∧ Liv w tb (s.make p).1 (k + 2) w' :=
  liv_of h (Nx.refl _) (h.good.make p hp) fun g hT _ => make_any W tb s g hk hT h.good.ok p hp
theorem liv_write (h : Liv w tb s k W0) (hn : Nx W0 W) (hk : k + 1 ≤ 1000) (p : Str) (hp : p.length ≤ 10000) (A : Option Addr) (n c : Nat) (b : Str) (hb : Arg W A n c b) (hbl : b.length ≤ 10000) (hnil : A = none → c = 0) (hA : ∀ j o, A = some ⟨j, o, none⟩ → W0.heap.size ≤ j) :
    Calls Try.prog 11 #[.pointer (some ⟨tb, 0, none⟩), .string (S p), .slice A n c] W fun e w' => e = .returned (.int .i64 (s.write p b).2) ∧ Liv w tb (s.write p b).1 (k + 2) w' :=
  liv_of h hn (h.good.write (by omega) p b hbl) fun g hT h0 => write_any W tb s g (by omega) hT h.good.ok p hp A n c b hb hbl hnil fun j o e => h0 j (hA j o e)
theorem liv_append (h : Liv w tb s k W0) (hn : Nx W0 W) (hk : k + 1 ≤ 1000) (p : Str) (hp : p.length ≤ 10000) (A : Option Addr) (n c : Nat) (b : Str) (hb : Arg W A n c b) (hbl : b.length ≤ 10000) (hA : ∀ j o, A = some ⟨j, o, none⟩ → W0.heap.size ≤ j) :
    Calls Try.prog 28 #[.pointer (some ⟨tb, 0, none⟩), .string (S p), .slice A n c] W fun e w' => e = .returned (.int .i64 (s.append_ p b).2) ∧ Liv w tb (s.append_ p b).1 (k + 2) w' :=
  liv_of h hn (h.good.append (by omega) p b hbl) fun g hT h0 => append_any W tb s g (by omega) hT h.good.ok p hp A n c b hb hbl fun j o e => h0 j (hA j o e)
theorem liv_sync (h : Liv w tb s k W) (hk : k + 1 ≤ 1000) (p : Str) (hp : p.length ≤ 10000) :
    Calls Try.prog 12 #[.pointer (some ⟨tb, 0, none⟩), .string (S p)] W fun e w' => e = .returned (.int .i64 (s.sync p).2) ∧ Liv w tb (s.sync p).1 (k + 2) w' :=
  liv_of h (Nx.refl _) (h.good.sync p) fun g hT _ => sync_any W tb s g (by omega) hT h.good.ok p hp
theorem liv_syncPaths (h : Liv w tb s k W) (hk : k + 1 ≤ 1000) :
    Calls Try.prog 27 #[.pointer (some ⟨tb, 0, none⟩)] W fun e w' => e = .returned (.int .i64 s.syncPaths.2) ∧ Liv w tb s.syncPaths.1 (k + 2) w' :=
  liv_of h (Nx.refl _) h.good.syncPaths fun g hT _ => syncPaths_any W tb s g (by omega) hT h.good.ok
theorem liv_rename (h : Liv w tb s k W) (hk : k + 1 ≤ 1000) (p q : Str) (hp : p.length ≤ 10000) (hq : q.length ≤ 10000) :
    Calls Try.prog 13 #[.pointer (some ⟨tb, 0, none⟩), .string (S p), .string (S q)] W fun e w' => e = .returned (.int .i64 (s.rename p q).2) ∧ Liv w tb (s.rename p q).1 (k + 2) w' :=
  liv_of h (Nx.refl _) (h.good.rename (by omega) p q hp hq) fun g hT _ => rename_any W tb s g hk hT h.good.ok p q hp hq
theorem liv_remove (h : Liv w tb s k W) (hk : k + 1 ≤ 1000) (p : Str) (hp : p.length ≤ 10000) :
    Calls Try.prog 48 #[.pointer (some ⟨tb, 0, none⟩), .string (S p)] W fun e w' => e = .returned (.int .i64 (s.remove p).2) ∧ Liv w tb (s.remove p).1 (k + 2) w' :=
  liv_of h (Nx.refl _) (h.good.remove (by omega) p hp) fun g hT _ => remove_any W tb s g hk hT h.good.ok p hp
theorem liv_crash (h : Liv w tb s k W0) (hn : Nx W0 W) (hk : k + 1 ≤ 1000) (keep : Int) (hkeep : keep ≤ 9223372036854775807) (A : Option Addr) (n c : Nat) (parts : List Int) (hN : Nums W A n c parts) (hA : ∀ j o, A = some ⟨j, o, none⟩ → W0.heap.size ≤ j) :
    Calls Try.prog 14 #[.pointer (some ⟨tb, 0, none⟩), .int .i64 keep, .slice A n c] W fun e w' => e = .returned (.int .i64 0) ∧ Liv w tb (s.crash keep parts) (k + 2) w' :=
  liv_of h hn (h.good.crash hk keep parts) fun g hT h0 => crash_any W tb s g hk hT h.good.ok h.good.sp.1 keep hkeep A n c parts hN fun j o e => h0 j (hA j o e)
theorem liv_fuse (h : Liv w tb s k W) (n : Int) (hn : n ≤ 9223372036854775807) :
    Calls Try.prog 17 #[.pointer (some ⟨tb, 0, none⟩), .int .i64 n] W fun e w' => e = .returned (.int .i64 0) ∧ Liv w tb (s.fuse_ n) k w' :=
  liv_tb h (Nx.refl _) (h.good.fuse n hn) fun g hT => (fuse_any W tb s g hT n)
theorem liv_read (h : Liv w tb s k W) (hk : k + 1 ≤ 1000) (p : Str) (hp : p.length ≤ 10000) :
    Calls Try.prog 18 #[.pointer (some ⟨tb, 0, none⟩), .string (S p)] W fun e w' => (∃ A n c, e = .returned (.tuple #[.slice A n c, .int .i64 (s.read p).2.2]) ∧ Own w' W.heap.size A n c (s.read p).2.1) ∧ Liv w tb (s.read p).1 k w' :=
  liv_tb h (Nx.refl _) (h.good.read p) fun g hT => (read_any W tb s g (by omega) hT h.good.ok p hp).mono fun e w' ⟨A, n, c, e1, e2, e3, e4⟩ => ⟨⟨A, n, c, e1, e2⟩, e3, e4⟩
theorem liv_got (h : Liv w tb s k W) (hk : k + 1 ≤ 1000) (p : Str) (hp : p.length ≤ 10000) :
    Calls Try.prog 15 #[.pointer (some ⟨tb, 0, none⟩), .string (S p)] W fun e w' => e = .returned (.string (S (s.read p).2.1)) ∧ Liv w tb (s.read p).1 k w' :=
  liv_tb h (Nx.refl _) (h.good.read p) fun g hT => got_any W tb s g (by omega) hT h.good.ok p hp
theorem liv_stat (h : Liv w tb s k W) (p : Str) (hp : p.length ≤ 10000) :
    Calls Try.prog 21 #[.pointer (some ⟨tb, 0, none⟩), .string (S p)] W fun e w' => e = .returned (.tuple #[.int .i64 (s.stat p).1, .int .u64 ((s.stat p).2.1 : Int), .bool (s.stat p).2.2]) ∧ Liv w tb s k w' := by
  obtain ⟨g, hT, h0⟩ := h.ex
  exact (stat_any W tb s g hT h.good.ok p (by omega)).mono fun e w' ⟨he, m, hm⟩ => ⟨he, by rw [hm]; exact h.drewN m⟩
theorem liv_left (h : Liv w tb s k W) (hk : k + 1 ≤ 1000) :
    Calls Try.prog 16 #[.pointer (some ⟨tb, 0, none⟩)] W fun e w' => e = .returned (.int .i64 (s.left_ s.used)) ∧ W = w' := by
  obtain ⟨g, hT, h0⟩ := h.ex
  exact leftM_any W tb s g (by omega) hT h.good.ok
theorem liv_clock (h : Liv w tb s k W) :
    Calls Try.prog 24 #[.pointer (some ⟨tb, 0, none⟩)] W fun e w' => e = .returned (.int .u64 (s.clock : Int)) ∧ W = w' := by
  obtain ⟨g, hT, h0⟩ := h.ex
  exact clock_any W tb s g hT
theorem liv_on (h : Liv w tb s k W) :
    Calls Try.prog 19 #[.pointer (some ⟨tb, 0, none⟩)] W fun e w' => e = .returned (.bool (!s.off)) ∧ W = w' := by
  obtain ⟨g, hT, h0⟩ := h.ex
  exact on_any W tb s g hT
theorem liv_paths (h : Liv w tb s k W) (hk : k + 1 ≤ 1000) (q : Str) :
    Calls Try.prog 23 #[.pointer (some ⟨tb, 0, none⟩), .string (S q)] W fun e w' => (∃ A n c, e = .returned (.slice A n c) ∧ Strs w' A n (s.paths q)) ∧ Nx W w' := by
  obtain ⟨g, hT, h0⟩ := h.ex
  refine (paths_any W tb s g (by omega) hT h.good.ok h.good.sp.2 q).mono fun e w' ⟨A, n, c, e1, e2, e3⟩ => ⟨⟨A, n, c, e1, e2.strs ?_⟩, e3⟩
  have h1 := e2.1
  have h2 : (s.paths q).length ≤ s.files.length := by unfold St.paths; have := List.length_filter_le (fun p => q.isPrefixOf p) (s.files.map (·.1)); rw [List.length_map] at this; exact this
  have h3 := h.good.ok.lf
  simp only [strV, List.length_map] at h1
  omega
theorem liv_new (room : Int) (h0 : 0 ≤ room) (h1 : room ≤ 67108864) (hn : Nx w W) :
    Calls Try.prog 8 #[.int .i64 room] W fun e w' => e = .returned (.tuple #[.pointer (some ⟨W.heap.size + 2, 0, none⟩), .int .i64 0]) ∧ Liv w (W.heap.size + 2) (St.new room) 0 w' :=
  (new_any W room h0 h1).mono fun e w' ⟨a, b, c⟩ => ⟨a, ⟨⟨_, b, fun j hj => by have := (new_le _ _ hj).1; have := hn.size; omega⟩, hn.trans c, Good.new room h0 h1⟩⟩
end
end Go.Proofs.Ytodnckflobefpaa

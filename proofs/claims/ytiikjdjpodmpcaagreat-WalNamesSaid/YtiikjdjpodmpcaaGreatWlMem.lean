/- Package wal: a tree that the call has made, and blocks beside it that no call on the tree touches. -/
import Derived.Test.YtiikjdjpodmpcaaGreatAll2
import Derived.Test.YtiikjdjpodmpcaaGreatWlPure
namespace Go.Proofs.YtiikjdjpodmpcaaGreat
open Go.RowKit Go.Maps
set_option linter.unusedVariables false

/-- In W lies a tree in the state s, in blocks made since w; the blocks Z, made since w too, are none of the tree's and hold what Z says; what was there in w is as it was. -/
structure LivZ (w : World) (tb : Nat) (s : St) (k : Nat) (Z : List (Nat × Obj)) (W : World) : Prop where
  ex : ∃ g, TreeAt W tb s g ∧ (∀ j, g.tag j ≠ 0 → w.heap.size ≤ j) ∧ ∀ z ∈ Z, g.tag z.1 = 0
  at_ : ∀ z ∈ Z, W.heap[z.1]? = some z.2
  new : ∀ z ∈ Z, w.heap.size ≤ z.1
  nd : Z.Pairwise fun a b => a.1 ≠ b.1
  nx : Nx w W
  good : Good k s
section
variable {w W0 W : World} {tb k : Nat} {s : St} {Z Z' : List (Nat × Obj)}
theorem LivZ.lt (h : LivZ w tb s k Z W) {z : Nat × Obj} (hz : z ∈ Z) : z.1 < W.heap.size := (Array.getElem?_eq_some_iff.1 (h.at_ z hz)).1
theorem LivZ.next (h : LivZ w tb s k Z W0) (hn : Nx W0 W) : LivZ w tb s k Z W := by
  obtain ⟨g, hT, h0, hz⟩ := h.ex
  exact ⟨⟨g, hT.nx hn, h0, hz⟩, fun z hm => (hn.block z.1 (h.lt hm)).trans (h.at_ z hm), h.new, h.nd, h.nx.trans hn, h.good⟩
theorem LivZ.drewN (h : LivZ w tb s k Z W0) (m : Nat) : LivZ w tb s k Z (W0.drewN m) := h.next (Nx.drewN (Nx.refl _) _)
theorem LivZ.up (h : LivZ w tb s k Z W) {m : Nat} (hm : k ≤ m) : LivZ w tb s m Z W := ⟨h.ex, h.at_, h.new, h.nd, h.nx, h.good.up hm⟩
theorem LivZ.perm (h : LivZ w tb s k Z W) (hp : Z.Perm Z') : LivZ w tb s k Z' W := by
  obtain ⟨g, hT, h0, hz⟩ := h.ex
  exact ⟨⟨g, hT, h0, fun z hm => hz z (hp.mem_iff.2 hm)⟩, fun z hm => h.at_ z (hp.mem_iff.2 hm), fun z hm => h.new z (hp.mem_iff.2 hm), (List.Perm.pairwise_iff (fun h => Ne.symm h) hp).1 h.nd, h.nx, h.good⟩
theorem LivZ.sub (h : LivZ w tb s k Z W) (hp : Z'.Sublist Z) : LivZ w tb s k Z' W := by
  obtain ⟨g, hT, h0, hz⟩ := h.ex
  exact ⟨⟨g, hT, h0, fun z hm => hz z (hp.subset hm)⟩, fun z hm => h.at_ z (hp.subset hm), fun z hm => h.new z (hp.subset hm), h.nd.sublist hp, h.nx, h.good⟩
theorem LivZ.swap {a b : Nat × Obj} (h : LivZ w tb s k (a :: b :: Z) W) : LivZ w tb s k (b :: a :: Z) W := h.perm (List.Perm.swap _ _ _)
theorem LivZ.tail {a : Nat × Obj} (h : LivZ w tb s k (a :: Z) W) : LivZ w tb s k Z W := h.sub (List.sublist_cons_self _ _)
/-- A block of W that no call on the tree can have touched, since it is new. -/
theorem LivZ.add (h : LivZ w tb s k Z W0) (hn : Nx W0 W) {j : Nat} {o : Obj} (hj : W0.heap.size ≤ j) (ho : W.heap[j]? = some o) : LivZ w tb s k ((j, o) :: Z) W := by
  have h1 := h.next hn
  obtain ⟨g, hT, h0, hz⟩ := h.ex
  have hw := h.nx.size
  refine ⟨⟨g, hT.nx hn, h0, fun z hm => ?_⟩, fun z hm => ?_, fun z hm => ?_, ?_, h1.nx, h.good⟩
  · rcases List.mem_cons.1 hm with rfl | hm
    · exact new_zero hT hj
    · exact hz z hm
  · rcases List.mem_cons.1 hm with rfl | hm
    · exact ho
    · exact h1.at_ z hm
  · rcases List.mem_cons.1 hm with rfl | hm
    · exact Nat.le_trans hw hj
    · exact h.new z hm
  · refine List.pairwise_cons.2 ⟨fun z hm e => ?_, h.nd⟩
    have := h.lt hm
    simp only at e
    omega
theorem LivZ.alloc (h : LivZ w tb s k Z W) (o : Obj) : LivZ w tb s k ((W.heap.size, o) :: Z) (W.alloc o) :=
  h.add ((Below.refl _ W).alloc (Nat.le_refl _) o) (Nat.le_refl _) (heap_alloc_new W o)
theorem LivZ.blk {j : Nat} {t : TypeId} {cs : Array Value} (h : LivZ w tb s k Z W) (hz : (j, .cells cs t (0, 0)) ∈ Z) : BlkIs W j t cs := h.at_ _ hz
/-- A cell of a block beside the tree is set. -/
theorem LivZ.set {j : Nat} {t : TypeId} {cs : Array Value} (h : LivZ w tb s k ((j, .cells cs t (0, 0)) :: Z) W) (i : Nat) (u : Value) :
    LivZ w tb s k ((j, .cells (cs.setIfInBounds i u) t (0, 0)) :: Z) (W.setCell ⟨j, i, none⟩ u) := by
  have hb : BlkIs W j t cs := h.blk List.mem_cons_self
  have hC := Chd.set W j i u
  obtain ⟨g, hT, h0, hz⟩ := h.ex
  have htag := hz _ List.mem_cons_self
  have hnew := h.new _ List.mem_cons_self
  have hnd := List.pairwise_cons.1 h.nd
  simp only at htag hnew hnd
  refine ⟨⟨g, hT.chd hC (fun x e => by rw [e]; exact htag), h0, fun z hm => ?_⟩, fun z hm => ?_, fun z hm => ?_, ?_, ?_, h.good⟩
  · rcases List.mem_cons.1 hm with rfl | hm
    · exact htag
    · exact hz z (List.mem_cons_of_mem _ hm)
  · rcases List.mem_cons.1 hm with rfl | hm
    · exact hb.set i u
    · rw [hC.block z.1 (h.lt (List.mem_cons_of_mem _ hm)) (fun e => hnd.1 z hm e.symm)]
      exact h.at_ z (List.mem_cons_of_mem _ hm)
  · rcases List.mem_cons.1 hm with rfl | hm
    · exact hnew
    · exact h.new z (List.mem_cons_of_mem _ hm)
  · exact List.pairwise_cons.2 ⟨hnd.1, hnd.2⟩
  · have c : Chd (fun _ => False) w (W.setCell ⟨j, i, none⟩ u) := (Chd.of_below h.nx).then_ hC (fun x hx e => by rw [e] at hx; omega)
    exact c.below (Nat.le_refl _) (fun _ _ e => e)
theorem LivZ.liv (h : LivZ w tb s k Z W) : Liv w tb s k W := by
  obtain ⟨g, hT, h0, hz⟩ := h.ex
  exact ⟨⟨g, hT, h0⟩, h.nx, h.good⟩
theorem LivZ.of (h : Liv w tb s k W) : LivZ w tb s k [] W := by
  obtain ⟨g, hT, h0⟩ := h.ex
  exact ⟨⟨g, hT, h0, fun z hm => by cases hm⟩, fun z hm => (by cases hm), fun z hm => (by cases hm), List.Pairwise.nil, h.nx, h.good⟩

theorem livz_of {f : FuncId} {args : Array Value} {v : Value} {s' : St} {k' : Nat} (h : LivZ w tb s k Z W0) (hn : Nx W0 W) (hg : Good k' s')
    (hc : ∀ g, TreeAt W tb s g → (∀ j, W0.heap.size ≤ j ∨ (∃ z ∈ Z, z.1 = j) → g.tag j = 0) → Calls Tryz.prog f args W fun e w' => e = .returned v ∧ ∃ g', TreeAt w' tb s' g' ∧ Chd (Mine g) W w' ∧ Gh.le W g g') :
    Calls Tryz.prog f args W fun e w' => e = .returned v ∧ LivZ w tb s' k' Z w' := by
  have h1 := h.next hn
  obtain ⟨g, hT, h0, hz⟩ := h.ex
  refine (hc g (hT.nx hn) (fun j hj => ?_)).mono ?_
  · rcases hj with hj | ⟨z, hm, rfl⟩
    · exact new_zero hT hj
    · exact hz z hm
  rintro e w' ⟨he, g', hT', hC, hle⟩
  have hs := h1.nx.size
  refine ⟨he, ⟨g', hT', fun j hj => ?_, fun z hm => ?_⟩, fun z hm => ?_, h.new, h.nd, ?_, hg⟩
  · rcases hle j hj with h2 | h2
    · exact h0 j h2
    · omega
  · refine Decidable.byContradiction fun x => ?_
    rcases hle z.1 x with h2 | h2
    · exact h2 (hz z hm)
    · have := h1.lt hm; omega
  · rw [hC.block z.1 (h1.lt hm) (fun e => e (hz z hm))]
    exact h1.at_ z hm
  · have c : Chd (fun _ => False) w w' := (Chd.of_below h1.nx).then_ hC (fun j hj e => by have := h0 j e; omega)
    exact c.below (Nat.le_refl _) (fun _ _ e => e)
theorem livz_tb {f : FuncId} {args : Array Value} {R : Ending → World → Prop} {s' : St} {k' : Nat} (h : LivZ w tb s k Z W) (hg : Good k' s')
    (hc : ∀ g, TreeAt W tb s g → Calls Tryz.prog f args W fun e w' => R e w' ∧ TreeAt w' tb s' g ∧ Chd (fun j => j = tb) W w') :
    Calls Tryz.prog f args W fun e w' => R e w' ∧ LivZ w tb s' k' Z w' := by
  obtain ⟨g, hT, h0, hz⟩ := h.ex
  refine (hc g hT).mono ?_
  rintro e w' ⟨he, hT', hC⟩
  have htb := hT.topT
  refine ⟨he, ⟨g, hT', h0, hz⟩, fun z hm => ?_, h.new, h.nd, ?_, hg⟩
  · rw [hC.block z.1 (h.lt hm) (fun e => by have := hz z hm; rw [e, htb] at this; omega)]
    exact h.at_ z hm
  · have c : Chd (fun _ => False) w w' := (Chd.of_below h.nx).then_ hC (fun j hj e => by
      have := h0 tb (by rw [htb]; omega)
      omega)
    exact c.below (Nat.le_refl _) (fun _ _ e => e)

theorem livz_make (h : LivZ w tb s k Z W) (hk : k + 1 ≤ 1000) (p : Str) (hp : p.length ≤ 10000) :
    Calls Tryz.prog 103 #[.pointer (some ⟨tb, 0, none⟩), .string (S p)] W fun e w' => e = .returned (.int .i64 (s.make p).2) ∧ LivZ w tb (s.make p).1 (k + 2) Z w' :=
  livz_of h (Nx.refl _) (h.good.make p hp) fun g hT _ => make_any W tb s g hk hT h.good.ok p hp
theorem livz_write (h : LivZ w tb s k Z W0) (hn : Nx W0 W) (hk : k + 1 ≤ 1000) (p : Str) (hp : p.length ≤ 10000) (A : Option Addr) (n c : Nat) (b : Str) (hb : Arg W A n c b) (hbl : b.length ≤ 10000) (hnil : A = none → c = 0) (hA : ∀ j o, A = some ⟨j, o, none⟩ → W0.heap.size ≤ j ∨ ∃ z ∈ Z, z.1 = j) :
    Calls Tryz.prog 105 #[.pointer (some ⟨tb, 0, none⟩), .string (S p), .slice A n c] W fun e w' => e = .returned (.int .i64 (s.write p b).2) ∧ LivZ w tb (s.write p b).1 (k + 2) Z w' :=
  livz_of h hn (h.good.write (by omega) p b hbl) fun g hT h0 => write_any W tb s g (by omega) hT h.good.ok p hp A n c b hb hbl hnil fun j o e => h0 j (hA j o e)
theorem livz_append (h : LivZ w tb s k Z W0) (hn : Nx W0 W) (hk : k + 1 ≤ 1000) (p : Str) (hp : p.length ≤ 10000) (A : Option Addr) (n c : Nat) (b : Str) (hb : Arg W A n c b) (hbl : b.length ≤ 10000) (hA : ∀ j o, A = some ⟨j, o, none⟩ → W0.heap.size ≤ j ∨ ∃ z ∈ Z, z.1 = j) :
    Calls Tryz.prog 50 #[.pointer (some ⟨tb, 0, none⟩), .string (S p), .slice A n c] W fun e w' => e = .returned (.int .i64 (s.append_ p b).2) ∧ LivZ w tb (s.append_ p b).1 (k + 2) Z w' :=
  livz_of h hn (h.good.append (by omega) p b hbl) fun g hT h0 => append_any W tb s g (by omega) hT h.good.ok p hp A n c b hb hbl fun j o e => h0 j (hA j o e)
theorem livz_sync (h : LivZ w tb s k Z W) (hk : k + 1 ≤ 1000) (p : Str) (hp : p.length ≤ 10000) :
    Calls Tryz.prog 62 #[.pointer (some ⟨tb, 0, none⟩), .string (S p)] W fun e w' => e = .returned (.int .i64 (s.sync p).2) ∧ LivZ w tb (s.sync p).1 (k + 2) Z w' :=
  livz_of h (Nx.refl _) (h.good.sync p) fun g hT _ => sync_any W tb s g (by omega) hT h.good.ok p hp
theorem livz_syncPaths (h : LivZ w tb s k Z W) (hk : k + 1 ≤ 1000) :
    Calls Tryz.prog 109 #[.pointer (some ⟨tb, 0, none⟩)] W fun e w' => e = .returned (.int .i64 s.syncPaths.2) ∧ LivZ w tb s.syncPaths.1 (k + 2) Z w' :=
  livz_of h (Nx.refl _) h.good.syncPaths fun g hT _ => syncPaths_any W tb s g (by omega) hT h.good.ok
theorem livz_rename (h : LivZ w tb s k Z W) (hk : k + 1 ≤ 1000) (p q : Str) (hp : p.length ≤ 10000) (hq : q.length ≤ 10000) :
    Calls Tryz.prog 108 #[.pointer (some ⟨tb, 0, none⟩), .string (S p), .string (S q)] W fun e w' => e = .returned (.int .i64 (s.rename p q).2) ∧ LivZ w tb (s.rename p q).1 (k + 2) Z w' :=
  livz_of h (Nx.refl _) (h.good.rename (by omega) p q hp hq) fun g hT _ => rename_any W tb s g hk hT h.good.ok p q hp hq
theorem livz_remove (h : LivZ w tb s k Z W) (hk : k + 1 ≤ 1000) (p : Str) (hp : p.length ≤ 10000) :
    Calls Tryz.prog 132 #[.pointer (some ⟨tb, 0, none⟩), .string (S p)] W fun e w' => e = .returned (.int .i64 (s.remove p).2) ∧ LivZ w tb (s.remove p).1 (k + 2) Z w' :=
  livz_of h (Nx.refl _) (h.good.remove (by omega) p hp) fun g hT _ => remove_any W tb s g hk hT h.good.ok p hp
theorem livz_crash (h : LivZ w tb s k Z W0) (hn : Nx W0 W) (hk : k + 1 ≤ 1000) (keep : Int) (hkeep : keep ≤ 9223372036854775807) (A : Option Addr) (n c : Nat) (parts : List Int) (hN : Nums W A n c parts) (hA : ∀ j o, A = some ⟨j, o, none⟩ → W0.heap.size ≤ j ∨ ∃ z ∈ Z, z.1 = j) :
    Calls Tryz.prog 36 #[.pointer (some ⟨tb, 0, none⟩), .int .i64 keep, .slice A n c] W fun e w' => e = .returned (.int .i64 0) ∧ LivZ w tb (s.crash keep parts) (k + 2) Z w' :=
  livz_of h hn (h.good.crash hk keep parts) fun g hT h0 => crash_any W tb s g hk hT h.good.ok h.good.sp.1 keep hkeep A n c parts hN fun j o e => h0 j (hA j o e)
theorem livz_fuse (h : LivZ w tb s k Z W) (n : Int) (hn : n ≤ 9223372036854775807) :
    Calls Tryz.prog 35 #[.pointer (some ⟨tb, 0, none⟩), .int .i64 n] W fun e w' => e = .returned (.int .i64 0) ∧ LivZ w tb (s.fuse_ n) k Z w' :=
  livz_tb h (h.good.fuse n hn) fun g hT => (fuse_any W tb s g hT n)
theorem livz_read (h : LivZ w tb s k Z W) (hk : k + 1 ≤ 1000) (p : Str) (hp : p.length ≤ 10000) :
    Calls Tryz.prog 72 #[.pointer (some ⟨tb, 0, none⟩), .string (S p)] W fun e w' => (∃ A n c, e = .returned (.tuple #[.slice A n c, .int .i64 (s.read p).2.2]) ∧ Own w' W.heap.size A n c (s.read p).2.1) ∧ LivZ w tb (s.read p).1 k Z w' :=
  livz_tb h (h.good.read p) fun g hT => (read_any W tb s g (by omega) hT h.good.ok p hp).mono fun e w' ⟨A, n, c, e1, e2, e3, e4⟩ => ⟨⟨A, n, c, e1, e2⟩, e3, e4⟩
theorem livz_stat (h : LivZ w tb s k Z W) (p : Str) (hp : p.length ≤ 10000) :
    Calls Tryz.prog 116 #[.pointer (some ⟨tb, 0, none⟩), .string (S p)] W fun e w' => e = .returned (.tuple #[.int .i64 (s.stat p).1, .int .u64 ((s.stat p).2.1 : Int), .bool (s.stat p).2.2]) ∧ ∃ m, w' = W.drewN m := by
  obtain ⟨g, hT, h0, hz⟩ := h.ex
  exact stat_any W tb s g hT h.good.ok p (by omega)
end

/-! ### A log in memory -/
def lptr (lb : Nat) : Value := .pointer (some ⟨lb, 0, none⟩)
def logC (tb : Nat) (L : Lg) : Array Value := #[.int .i64 L.e, .pointer (some ⟨tb, 0, none⟩), .string (S L.path), .int .i64 L.size, .int .i64 L.count]
def logO (tb : Nat) (L : Lg) : Obj := .cells (logC tb L) 74 (0, 0)
theorem LivZ.logAt {w W : World} {tb k lb : Nat} {s : St} {L : Lg} {Z : List (Nat × Obj)} (h : LivZ w tb s k ((lb, logO tb L) :: Z) W) : BlkIs W lb 74 (logC tb L) := h.at_ _ List.mem_cons_self
structure LogHas (W : World) (tb lb : Nat) (L : Lg) : Prop where
  c0 : W.cell? ⟨lb, 0, none⟩ = some (.int .i64 L.e)
  c1 : W.cell? ⟨lb, 1, none⟩ = some (.pointer (some ⟨tb, 0, none⟩))
  c2 : W.cell? ⟨lb, 2, none⟩ = some (.string (S L.path))
  c3 : W.cell? ⟨lb, 3, none⟩ = some (.int .i64 L.size)
  c4 : W.cell? ⟨lb, 4, none⟩ = some (.int .i64 L.count)
  fz : ∀ i, W.frozen? ⟨lb, i, none⟩ = false
theorem BlkIs.log {W : World} {tb lb : Nat} {L : Lg} (h : BlkIs W lb 74 (logC tb L)) : LogHas W tb lb L :=
  ⟨by rw [h.cell]; rfl, by rw [h.cell]; rfl, by rw [h.cell]; rfl, by rw [h.cell]; rfl, by rw [h.cell]; rfl, fun i => h.frozen i⟩
end Go.Proofs.YtiikjdjpodmpcaaGreat

/- Package tree: a call that a law is handed, on a tree. -/
import Derived.Test.YtodnckflobefpaaTrCall
import Derived.Test.YtodnckflobefpaaTrActs
namespace Go.Proofs.Ytodnckflobefpaa
open Go.RowKit Go.Maps
set_option linter.unusedVariables false

theorem own_ge2 {w : World} {B j n c : Nat} {b : Str} (h : Own w B (some ⟨j, 0, none⟩) n c b) : ∀ j2 o, some (⟨j, 0, none⟩ : Addr) = some ⟨j2, o, none⟩ → B ≤ j2 := fun j2 o e => by
  simp only [Option.some.injEq, Addr.mk.injEq] at e
  obtain ⟨rfl, -, -⟩ := e
  rcases h.2 with ⟨hv, _⟩ | ⟨g, cap, cur, hv, hb, _⟩
  · cases hv
  · simp only [Value.slice.injEq, Option.some.injEq, Addr.mk.injEq] at hv
    omega
/-- What a call does to the tree, and answers. -/
def St.actI (s : St) (a : Ac) (b : Str) (ps : List Int) : Int → St × Str × Int := fun n =>
  if n = 0 then ((s.make a.p).1, [], (s.make a.p).2)
  else if n = 1 then ((s.write a.p b).1, [], (s.write a.p b).2)
  else if n = 2 then ((s.append_ a.p b).1, [], (s.append_ a.p b).2)
  else if n = 3 then ((s.sync a.p).1, [], (s.sync a.p).2)
  else if n = 4 then (s.syncPaths.1, [], s.syncPaths.2)
  else if n = 5 then ((s.rename a.p a.q).1, [], (s.rename a.p a.q).2)
  else if n = 6 then ((s.remove a.p).1, [], (s.remove a.p).2)
  else if n = 7 then (s.fuse_ a.N, [], 0)
  else if n = 8 then (s.crash a.N ps, [], 0)
  else ((s.read a.p).1, (s.read a.p).2.1, (s.read a.p).2.2)
def St.act (s : St) (a : Ac) (b : Str) (ps : List Int) : St × Str × Int := s.actI a b ps (pickOf a.K 10)
theorem ten {n : Int} (h0 : 0 ≤ n) (h1 : n < 10) : n = 0 ∨ n = 1 ∨ n = 2 ∨ n = 3 ∨ n = 4 ∨ n = 5 ∨ n = 6 ∨ n = 7 ∨ n = 8 ∨ n = 9 := by omega
theorem Good.act {k : Nat} {s : St} (h : Good k s) (hk : k + 1 ≤ 1000) (a : Ac) (b : Str) (ps : List Int) (hf : a.fits) (hb : b.length = a.n) (hN : a.N ≤ 9223372036854775807) : Good (k + 2) (s.act a b ps).1 := by
  obtain ⟨f1, f2, f3, f4⟩ := hf
  unfold St.act
  rcases ten (pickOf_lo a.K 10 (by omega)) (pickOf_hi a.K 10 (by omega)) with e | e | e | e | e | e | e | e | e | e <;> rw [e]
  · exact h.make a.p (by omega)
  · exact h.write (by omega) a.p b (by omega)
  · exact h.append (by omega) a.p b (by omega)
  · exact h.sync a.p
  · exact h.syncPaths
  · exact h.rename (by omega) a.p a.q (by omega) (by omega)
  · exact h.remove (by omega) a.p (by omega)
  · exact (h.fuse a.N hN).up (by omega)
  · exact h.crash hk a.N ps
  · exact (h.read a.p).up (by omega)

theorem call_at (w : World) (tb : Nat) (s : St) (g : Gh) {k : Nat} (hk : k + 1 ≤ 1000) (hT : TreeAt w tb s g) (good : Good k s) (a : Ac) (b : Str) (ps : List Int) (hf : a.fits)
    (hk1 : -9223372036854775808 ≤ a.K) (hk2 : a.K ≤ 9223372036854775807) (hN : a.N ≤ 9223372036854775807) (hb : Arg w a.A a.n a.c b) (hp : Nums w a.A4 a.n4 a.c4 ps) :
    Calls Try.prog 22 #[.pointer (some ⟨tb, 0, none⟩), .agg a.cs] w fun e w' => e = .returned (Ans (s.act a b ps).2.1 (s.act a b ps).2.2) ∧ ∃ g', TreeAt w' tb (s.act a b ps).1 g' ∧ Chd (Mine g) w w' ∧ Gh.le w g g' := by
  obtain ⟨f1, f2, f3, f4⟩ := hf
  have hbl : b.length ≤ 10000 := by rw [hb.len]; omega
  have ok := good.ok
  have n0 : g.tag w.heap.size = 0 := new_zero hT (Nat.le_refl _)
  have n1 : g.tag (w.heap.size + 1) = 0 := new_zero hT (Nat.le_succ _)
  let Q : St → Str → Int → Str → Int → World → Prop := fun s' x0 er0 x er W => x = x0 ∧ er = er0 ∧ ∃ g', TreeAt W tb s' g' ∧ Chd (Mine g) w W ∧ Gh.le w g g' ∧ g'.tag (w.heap.size + 1) = 0
  have hQ : ∀ s' x0 er0 (x : Str) (er : Int) (W W' : World), Q s' x0 er0 x er W → Chd (fun j => j = w.heap.size + 1) W W' → w.heap.size + 1 < W.heap.size → Q s' x0 er0 x er W' := fun s' x0 er0 x er W W' ⟨h1, h2, g', h3, h4, h5, h6⟩ hc _ =>
    ⟨h1, h2, g', h3.chd hc (fun j e => by rw [e]; exact h6), h4.then_ hc (fun j hj e => by omega), h5, h6⟩
  have fin : ∀ s' x0 er0 (e : Ending) (w' : World), (∃ x er, e = .returned (Ans x er) ∧ Q s' x0 er0 x er w') → e = .returned (Ans x0 er0) ∧ ∃ g', TreeAt w' tb s' g' ∧ Chd (Mine g) w w' ∧ Gh.le w g g' := fun s' x0 er0 e w' ⟨x, er, h, h1, h2, g', h3, h4, h5, _⟩ => ⟨by rw [h, h1, h2], g', h3, h4, h5⟩
  have kept : ∀ {W w' : World}, w.heap.size + 1 < W.heap.size → Chd (Mine g) W w' → Kept2 w.heap.size W w' := fun hs hc => ⟨hc.block _ (by omega) (fun e => e n0), hc.block _ hs (fun e => e n1)⟩
  have lift : ∀ {W w' : World} {s' : St} {g' : Gh} {x0 : Str} {er0 : Int}, Nx w W → w.heap.size + 1 < W.heap.size → TreeAt w' tb s' g' → Chd (Mine g) W w' → Gh.le W g g' → Q s' x0 er0 x0 er0 w' := fun hx hs h1 h2 h3 => ⟨rfl, rfl, _, h1, (Chd.of_below hx).trans h2, (fun j hj => (h3 j hj).imp id (fun e => Nat.le_trans hx.size e)), (Decidable.byContradiction fun e => by
    rcases h3 _ e with h | h
    · exact h n1
    · omega)⟩
  have put : ∀ {W W2 : World} {f : FuncId} {args : Array Value} {s' : St} {er : Int}, Nx w W → Nx W W2 → w.heap.size + 1 < W.heap.size → Calls Try.prog f args W2 (fun e w' => e = .returned (.int .i64 er) ∧ ∃ g', TreeAt w' tb s' g' ∧ Chd (Mine g) W2 w' ∧ Gh.le W2 g g') → Calls Try.prog f args W2 (fun e w' => ∃ er2, e = .returned (.int .i64 er2) ∧ Q s' [] er [] er2 w' ∧ Kept2 w.heap.size W2 w') :=
    fun h1 h2 h3 hc => hc.mono fun e w' ⟨e1, g', e2, e3, e4⟩ => ⟨_, e1, lift (h1.trans h2) (Nat.lt_of_lt_of_le h3 h2.size) e2 e3 e4, kept (Nat.lt_of_lt_of_le h3 h2.size) e3⟩
  have mine : ∀ {W w' : World}, Chd (fun j => j = tb) W w' → Chd (Mine g) W w' := fun h => h.mono fun j _ e => by rw [e]; show g.tag tb ≠ 0; rw [hT.topT]; omega
  have ge : ∀ {W : World}, Nx w W → ∀ j, W.heap.size ≤ j → g.tag j = 0 := fun hx j hj => new_zero hT (Nat.le_trans hx.size hj)
  unfold St.act
  rcases ten (pickOf_lo a.K 10 (by omega)) (pickOf_hi a.K 10 (by omega)) with e | e | e | e | e | e | e | e | e | e <;> rw [e]
  · exact (call_0 w _ a hk1 hk2 e _ (fun W hx hs => put hx (Nx.refl _) hs (make_any W tb s g hk (hT.nx hx) ok a.p (by omega))) (hQ _ _ _)).mono (fin _ _ _)
  · exact (call_1 w _ a hk1 hk2 e b hb f3 _ (fun W W2 j c2 hx hs hx2 ho => put hx hx2 hs (write_any W2 tb s g (by omega) (hT.nx (hx.trans hx2)) ok a.p (by omega) _ _ _ b ho.arg hbl (fun e => by cases e) (fun j2 o2 e2 => ge hx j2 (own_ge2 ho j2 o2 e2)))) (hQ _ _ _)).mono (fin _ _ _)
  · exact (call_2 w _ a hk1 hk2 e b hb f3 _ (fun W W2 j c2 hx hs hx2 ho => put hx hx2 hs (append_any W2 tb s g (by omega) (hT.nx (hx.trans hx2)) ok a.p (by omega) _ _ _ b ho.arg hbl (fun j2 o2 e2 => ge hx j2 (own_ge2 ho j2 o2 e2)))) (hQ _ _ _)).mono (fin _ _ _)
  · exact (call_3 w _ a hk1 hk2 e _ (fun W hx hs => put hx (Nx.refl _) hs (sync_any W tb s g (by omega) (hT.nx hx) ok a.p (by omega))) (hQ _ _ _)).mono (fin _ _ _)
  · exact (call_4 w _ a hk1 hk2 e _ (fun W hx hs => put hx (Nx.refl _) hs (syncPaths_any W tb s g (by omega) (hT.nx hx) ok)) (hQ _ _ _)).mono (fin _ _ _)
  · exact (call_5 w _ a hk1 hk2 e _ (fun W hx hs => put hx (Nx.refl _) hs (rename_any W tb s g hk (hT.nx hx) ok a.p a.q (by omega) (by omega))) (hQ _ _ _)).mono (fin _ _ _)
  · exact (call_6 w _ a hk1 hk2 e _ (fun W hx hs => put hx (Nx.refl _) hs (remove_any W tb s g hk (hT.nx hx) ok a.p (by omega))) (hQ _ _ _)).mono (fin _ _ _)
  · exact (call_7 w _ a hk1 hk2 e _ (fun W hx hs => put hx (Nx.refl _) hs ((fuse_any W tb s g (hT.nx hx) a.N).mono fun e w' ⟨e1, e2, e3⟩ => ⟨e1, g, e2, mine e3, Gh.le_refl _ _⟩)) (hQ _ _ _)).mono (fin _ _ _)
  · exact (call_8 w _ a hk1 hk2 e ps hp _ (fun W W2 A2 c2 hx hs hx2 hN2 hA => put hx hx2 hs (crash_any W2 tb s g hk (hT.nx (hx.trans hx2)) ok good.sp.1 a.N hN _ _ _ ps hN2 (fun j o e => ge hx j (hA j o e)))) (hQ _ _ _)).mono (fin _ _ _)
  · exact (call_9 w _ a hk1 hk2 e _ (fun W hx hs => (read_any W tb s g (by omega) (hT.nx hx) ok a.p (by omega)).mono fun e w' ⟨A, n, c, e1, e2, e3, e4⟩ => ⟨A, n, c, _, _, e1, run_string_of_bytes e2.byt, lift hx hs e3 (mine e4) (Gh.le_refl _ _), kept hs (mine e4)⟩) (hQ _ _ _)).mono (fin _ _ _)
theorem liv_call {w W : World} {tb k : Nat} {s : St} (h : Liv w tb s k W) (hk : k + 1 ≤ 1000) (a : Ac) (b : Str) (ps : List Int) (hf : a.fits)
    (hk1 : -9223372036854775808 ≤ a.K) (hk2 : a.K ≤ 9223372036854775807) (hN : a.N ≤ 9223372036854775807) (hb : Arg w a.A a.n a.c b) (hp : Nums w a.A4 a.n4 a.c4 ps) :
    Calls Try.prog 22 #[.pointer (some ⟨tb, 0, none⟩), .agg a.cs] W fun e w' => e = .returned (Ans (s.act a b ps).2.1 (s.act a b ps).2.2) ∧ Liv w tb (s.act a b ps).1 (k + 2) w' :=
  liv_of h (Nx.refl _) (h.good.act hk a b ps hf hb.len hN) fun g hT _ => call_at W tb s g hk hT h.good a b ps hf hk1 hk2 hN (hb.nx h.nx) (hp.nx h.nx)
end Go.Proofs.Ytodnckflobefpaa

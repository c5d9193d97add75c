/- Package table: Of. -/
import Derived.Test.YtekcphpeaoaaaaaTbPrs
namespace Go.Proofs.Ytekcphpeaoaaaaa
open Go.RowKit Go.Shelf
set_option linter.unusedVariables false

attribute [local go_sem] Oper.semAt_some

def ofL (l : List Pr) : List KV := l.foldl (fun xs p => ins p.k p.v xs) []
theorem ofL_snoc (l : List Pr) (p : Pr) : ofL (l ++ [p]) = ins p.k p.v (ofL l) := by unfold ofL; rw [List.foldl_append]; rfl
theorem ofL_take (l : List Pr) (i : Nat) (h : i < l.length) : ofL (l.take (i + 1)) = ins l[i].k l[i].v (ofL (l.take i)) := by rw [List.take_succ_eq_append_getElem h, ofL_snoc]
theorem foldl_ins_len : ∀ (l : List Pr) (xs : List KV), (l.foldl (fun xs p => ins p.k p.v xs) xs).length ≤ xs.length + l.length
  | [], xs => Nat.le_refl _
  | p :: l, xs => by
    have h1 := foldl_ins_len l (ins p.k p.v xs)
    have h2 := ins_length (k := p.k) (v := p.v) (xs := xs)
    simp only [List.foldl_cons, List.length_cons]
    omega
theorem ofL_len (l : List Pr) : (ofL l).length ≤ l.length := by have := foldl_ins_len l []; simpa [ofL] using this
/-- Keys and values are short. -/
def ShortP (l : List Pr) : Prop := ∀ p ∈ l, p.k.length ≤ 100000 ∧ p.v.length ≤ 100000
/-- A table in a variable. -/
theorem Tb.store {w : World} {T' : Value} {xs : List KV} {g : Nat} {ty : TypeId} {cs : Array Value} (h : Tb w T' xs) (hb : BlkIs w g ty cs) (hne : ty ≠ 66) (i : Nat) (u : Value) : Tb (w.setCell ⟨g, i, none⟩ u) T' xs := by
  obtain ⟨p, t, e, hin, r⟩ := h
  exact ⟨p, t, e, hin.set hb hne i u, r⟩
theorem Tb.agg {w : World} {T' : Value} {xs : List KV} (h : Tb w T' xs) : ∃ u, T' = .agg #[.pointer u] := by
  obtain ⟨u, _, e, _⟩ := h
  exact ⟨u, e⟩
def OfI (w : World) (tb : Nat) (l : List Pr) (i n : Nat) (wr : World) : Prop :=
  i + n = l.length ∧ ∃ u, BlkIs wr (tb + 1) 24 #[.pointer u] ∧ BlkIs wr tb 24 #[.pointer none] ∧ Tb wr (.agg #[.pointer u]) (ofL (l.take i)) ∧ Nx w wr ∧ tb + 2 ≤ wr.heap.size

set_option maxRecDepth 100000 in
set_option maxHeartbeats 1000000 in
theorem of_any (w : World) (v : Value) (l : List Pr) (h : Rd w v l) (hs : ShortP l) (hn : l.length < 100000000) :
    Calls Try.prog 32 #[v] w (Ret fun r w' => Tb w' r (ofL l) ∧ Nx w w') := by
  have hv : ∃ A c, v = .slice A l.length c := by rcases h with ⟨_, c, rfl, rfl⟩ | ⟨_, _, c, rfl, _⟩ <;> exact ⟨_, _, rfl⟩
  obtain ⟨A, c, rfl⟩ := hv
  have HA := Lib.hid h
  have HS := Lib.hid hs
  obtain ⟨W, hW⟩ : ∃ W, (w.alloc (.cells #[.pointer none] 24)).alloc (.cells #[.pointer none] 24) = W := ⟨_, rfl⟩
  have START : Hid (OfI w w.heap.size l 0 l.length W) := by
    have a1 := box_blk w (.pointer none) 24
    have a2 := box_blk (w.alloc (.cells #[.pointer none] 24)) (.pointer none) 24
    rw [World.size_alloc] at a2
    rw [← hW]
    exact ⟨by omega, none, a2, a1.nx ((Nx.refl _).alloc _), Tb.zero _, ((Nx.refl w).alloc _).alloc _, by simp⟩
  clear h hs
  go_enter Try.func32, Try.ntmps32
  go_wp2
  go_loopg [8] l.length (fun n p8 wr => ∃ (i : Nat), p8 = .int .i64 (i : Int) ∧ Hid (OfI w w.heap.size l i n wr))
  case atStart => exact ⟨0, rfl, by first | exact START.out | (rw [hW]; exact START.out)⟩
  case round =>
    obtain ⟨i, rfl, hh⟩ := hrel
    clear START hW
    obtain ⟨hi, u, hb, hb0, ht, hnx, hz⟩ := hh.out
    by_cases hlt : i < l.length
    · have e2 : decide ((i : Int) < (l.length : Int)) = true := by simpa using hlt
      have e3 : (0 : Int) ≤ (i : Int) := by omega
      have e4 : (i : Int) < (l.length : Int) := by omega
      rcases (Rd.nx HA.out hnx) with ⟨_, _, _, e⟩ | ⟨ba, oa, c1, ea, hca⟩
      · rw [e] at hlt; cases hlt
      · simp only [Value.slice.injEq] at ea
        obtain ⟨rfl, _, rfl⟩ := ea
        obtain ⟨x0, x1, x2⟩ := Rd.cells hca i hlt
        have hsh := HS.out _ (List.getElem_mem hlt)
        have hof := ofL_take l i hlt
        have hol := ofL_len (l.take i)
        rw [List.length_take] at hol
        generalize l[i] = p at *
        have hw : IntKind.i64.wrap ((i : Int) + 1) = (i : Int) + 1 := IntWalk.i64_in _ (by omega)
        have c3 : wr.cell? ⟨w.heap.size + 1, 0, none⟩ = some (.pointer u) := by rw [hb.cell]; rfl
        obtain ⟨Wp, hWp⟩ : ∃ Wp, wr.alloc (.cells #[.string (S p.k), .string (S p.v), .bool p.g] 40) = Wp := ⟨_, rfl⟩
        have np : Nx wr Wp := by rw [← hWp]; exact (Nx.refl wr).alloc _
        have bp : BlkIs Wp wr.heap.size 40 #[.string (S p.k), .string (S p.v), .bool p.g] := by rw [← hWp]; exact BlkIs.new _ _ _
        have d0 : Wp.cell? ⟨wr.heap.size, 0, none⟩ = some (.string (S p.k)) := by rw [bp.cell]; rfl
        have d1 : Wp.cell? ⟨wr.heap.size, 1, none⟩ = some (.string (S p.v)) := by rw [bp.cell]; rfl
        have d3 : Wp.cell? ⟨w.heap.size + 1, 0, none⟩ = some (.pointer u) := by rw [(hb.nx np).cell]; rfl
        have PT := Lib.hid (tput_any Wp (.agg #[.pointer u]) _ p.k p.v (ht.nx np) (by omega) hsh.1 hsh.2)
        have FIN : Hid (∀ u' w', Tb w' (.agg #[.pointer u']) (ins p.k p.v (ofL (l.take i))) → Nx Wp w' → w'.cell? ⟨w.heap.size + 1, 0, none⟩ = some (.pointer u) ∧ w'.frozen? ⟨w.heap.size + 1, 0, none⟩ = false ∧ gk - 1 < gk ∧ OfI w w.heap.size l (i + 1) (gk - 1) (w'.setCell ⟨w.heap.size + 1, 0, none⟩ (.pointer u'))) := fun u' w' ht' hn' => by
          have hb' := (hb.nx np).nx hn'
          have s1 := hn'.size
          have s2 := np.size
          refine ⟨by rw [hb'.cell]; rfl, hb'.frozen 0, by omega, by omega, u', hb'.set 0 _, (((hb0.nx np).nx hn').chd (Chd.set _ _ 0 _) (by omega)), ?_, ((hnx.trans np).trans hn').set _ 0 _ (by omega), by simp; omega⟩
          rw [hof]
          exact ht'.store hb' (by decide) 0 _
        clear hca hb hb0 ht hnx hz hh hof hol hsh np bp hi
        go_wp2_with fail
        refine PT.out.mono ?_
        rintro e w' ⟨r, rfl, ht', hn'⟩
        obtain ⟨u', rfl⟩ := ht'.agg
        obtain ⟨g1, g2, g3, g4⟩ := FIN.out u' w' ht' hn'
        have G4 := Lib.hid g4
        clear PT FIN ht' hn' g4 d0 d1 d3
        go_wp2
        go_roundg (gk - 1)
        case measure => exact g3
        case rel => exact ⟨i + 1, by push_cast; rfl, G4⟩
    · have e2 : decide ((i : Int) < (l.length : Int)) = false := by simpa using hlt
      have e3 : decide (i < l.length) = false := by simpa using hlt
      have c3 : wr.cell? ⟨w.heap.size + 1, 0, none⟩ = some (.pointer u) := by rw [hb.cell]; rfl
      have c0 : wr.cell? ⟨w.heap.size, 0, none⟩ = some (.pointer none) := by rw [hb0.cell]; rfl
      have f0 := hb0.frozen 0
      have FIN : Hid (BlkIs (wr.setCell ⟨w.heap.size, 0, none⟩ (.pointer u)) w.heap.size 24 #[.pointer u] ∧ Tb (wr.setCell ⟨w.heap.size, 0, none⟩ (.pointer u)) (.agg #[.pointer u]) (ofL l) ∧ Nx w (wr.setCell ⟨w.heap.size, 0, none⟩ (.pointer u))) := by
        refine ⟨hb0.set 0 _, ?_, hnx.set _ 0 _ (Nat.le_refl _)⟩
        have := ht.store hb0 (by decide) 0 (.pointer u)
        rwa [List.take_of_length_le (by omega)] at this
      clear hb hb0 ht hnx hz hh hi hlt
      go_wp2_with fail
      refine bodyPost_ret (results_cell_row rfl _ _ w.heap.size 24 #[.pointer u] (0, 0) _ rfl FIN.out.1 Try.underlying24 rfl (by kernel_rfl)) rfl ?_
      exact ⟨_, rfl, FIN.out.2⟩
end Go.Proofs.Ytekcphpeaoaaaaa

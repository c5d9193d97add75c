/- Package table: made. -/
import Derived.Test.YtekcphpeaoaaaaaTbMaA
namespace Go.Proofs.Ytekcphpeaoaaaaa
open Go.RowKit Go.Shelf
set_option linter.unusedVariables false

attribute [local go_sem] Oper.semAt_some

def MaI (w : World) (l : List Pr) (i n : Nat) (wr : World) : Prop :=
  i + n = l.length ∧ ∃ u s, BlkIs wr (w.heap.size + 2) 24 #[u] ∧ BlkIs wr (w.heap.size + 3) 36 #[s] ∧ BlkIs wr w.heap.size 24 #[.pointer none] ∧ BlkIs wr (w.heap.size + 1) 36 #[.slice none 0 0] ∧ Tb wr (.agg #[u]) (acts [] (l.take i)) ∧ Rt wr (.agg #[s]) (acts [] (l.take i)) ∧ Nx w wr ∧ w.heap.size + 4 ≤ wr.heap.size

set_option maxRecDepth 100000 in
set_option maxHeartbeats 1000000 in
theorem made_any (w : World) (v : Value) (l : List Pr) (h : Rd w v l) (hs : ShortP l) (hn : l.length < 100000000) :
    Calls Try.prog 16 #[v] w (Ret2 fun a b w' => Tb w' a (acts [] l) ∧ Rt w' b (acts [] l) ∧ Nx w w') := by
  obtain ⟨A, c, rfl⟩ := h.len
  have HA := Lib.hid h
  have HS := Lib.hid hs
  obtain ⟨W, hW⟩ : ∃ W, (((w.alloc (.cells #[.pointer none] 24)).alloc (.cells #[.slice none 0 0] 36)).alloc (.cells #[.pointer none] 24)).alloc (.cells #[.slice none 0 0] 36) = W := ⟨_, rfl⟩
  have START : Hid (MaI w l 0 l.length W) := by
    have a1 := box_blk w (.pointer none) 24
    have a2 := box_blk (w.alloc (.cells #[.pointer none] 24)) (.slice none 0 0) 36
    have a3 := box_blk ((w.alloc (.cells #[.pointer none] 24)).alloc (.cells #[.slice none 0 0] 36)) (.pointer none) 24
    have a4 := box_blk (((w.alloc (.cells #[.pointer none] 24)).alloc (.cells #[.slice none 0 0] 36)).alloc (.cells #[.pointer none] 24)) (.slice none 0 0) 36
    simp only [World.size_alloc] at a2 a3 a4
    rw [← hW]
    exact ⟨by omega, _, _, a3.nx ((Nx.refl _).alloc _), a4, a1.nx ((((Nx.refl _).alloc _).alloc _).alloc _), a2.nx (((Nx.refl _).alloc _).alloc _), Tb.zero _, Rt.zero _, ((((Nx.refl w).alloc _).alloc _).alloc _).alloc _, by simp only [World.size_alloc]; omega⟩
  clear h hs
  go_enter Try.func16, Try.ntmps16
  go_wp2
  go_loopg [6] l.length (fun n p6 wr => ∃ (i : Nat), p6 = .int .i64 (i : Int) ∧ Hid (MaI w l i n wr))
  case atStart => exact ⟨0, rfl, by first | exact START.out | (rw [hW]; exact START.out)⟩
  case round =>
    obtain ⟨i, rfl, hh⟩ := hrel
    clear START hW
    obtain ⟨hi, u, s, hb2, hb3, hb0, hb1, ht, hr, hnx, hz⟩ := hh.out
    obtain ⟨u', e⟩ := ht.agg
    obtain rfl : u = .pointer u' := by simpa using e
    obtain ⟨A5, n5, c5, e5⟩ := hr.agg
    obtain rfl : s = .slice A5 n5 c5 := by simpa using e5
    clear e e5
    by_cases hlt : i < l.length
    · have e2 : decide ((i : Int) < (l.length : Int)) = true := by simpa using hlt
      have e3 : (0 : Int) ≤ (i : Int) := by omega
      have e4 : (i : Int) < (l.length : Int) := by omega
      rcases HA.out with ⟨_, _, _, e⟩ | ⟨ba, oa, c1, ea, hca⟩
      · rw [e] at hlt; cases hlt
      · simp only [Value.slice.injEq] at ea
        obtain ⟨rfl, _, rfl⟩ := ea
        obtain ⟨z0, z1, z2⟩ := Rd.cells hca i hlt
        have x0 := cell_nx z0 hnx
        have x1 := cell_nx z1 hnx
        have x2 := cell_nx z2 hnx
        have hsh := HS.out _ (List.getElem_mem hlt)
        have hof := acts_take [] l i hlt
        have hol := acts_len (l.take i) []
        rw [List.length_take] at hol
        simp only [List.length_nil] at hol
        clear hca z0 z1 z2
        generalize l[i] = p at *
        have hw : IntKind.i64.wrap ((i : Int) + 1) = (i : Int) + 1 := IntWalk.i64_in _ (by omega)
        have FIN : Hid (∀ (W' : World) (q : List KV), q = actP (acts [] (l.take i)) p → Chd (fun k => k = w.heap.size + 2 ∨ k = w.heap.size + 3) wr W' → (∃ u, BlkIs W' (w.heap.size + 2) 24 #[u] ∧ Tb W' (.agg #[u]) q) → (∃ u, BlkIs W' (w.heap.size + 3) 36 #[u] ∧ Rt W' (.agg #[u]) q) → gk - 1 < gk ∧ MaI w l (i + 1) (gk - 1) W') := by
          rintro W' q rfl hc ⟨u1, b1, t1⟩ ⟨s1, b2, t2⟩
          have hsz := hc.size
          refine ⟨by omega, by omega, u1, s1, b1, b2, hb0.chd hc (by omega), hb1.chd hc (by omega), by rw [hof]; exact t1, by rw [hof]; exact t2, ?_, by omega⟩
          exact Below.trans hnx (hc.below (by have := hnx.size; omega) fun j hj => by omega)
        cases hg : p.g with
        | true =>
          rw [hg] at x2
          have CM : Hid (∀ a0 : Act, a0.tmps.size = 58 → a0.eval (.tmp 4) = .pointer (some ⟨w.heap.size + 2, 0, none⟩) → a0.eval (.tmp 5) = .pointer (some ⟨w.heap.size + 3, 0, none⟩) → a0.eval (.tmp 0) = .slice (some ⟨ba, oa, none⟩) l.length c → a0.eval (.tmp 6) = .int .i64 (i : Int) → CMa (rops Try.f16 7) a0 wr (w.heap.size + 2) (w.heap.size + 3) ba oa l.length c i u' A5 n5 c5 (acts [] (l.take i)) p) := fun a0 q1 q2 q3 q4 q5 =>
            ⟨rfl, q1, q2, q3, q4, q5, hb2, hb3, by omega, ht, hr, by omega, hlt, x0, x1, hsh.1, hsh.2⟩
          have ha : actP (acts [] (l.take i)) p = era p.k (acts [] (l.take i)) := by unfold actP; rw [if_pos hg]
          rw [ha] at FIN
          clear hb0 hb1 hb2 hb3 ht hr hnx hz hh hof hol hsh hi ha x0 x1 hlt
          go_wp2_with fail
          refine rgMa (CM.out _ rfl rfl rfl rfl rfl) ?_
          intro x18 x19 x20 x21 x22 x23 x24 x25 x26 x27 x28 x29 x30 x31 W' g1 g2 g3
          obtain ⟨f1, f2⟩ := FIN.out W' _ rfl g1 g2 g3
          have F2 := Lib.hid f2
          clear CM FIN f2 g1 g2 g3
          go_wp2
          go_roundg (gk - 1)
          case measure => exact f1
          case rel => exact ⟨i + 1, by push_cast; rfl, F2⟩
        | false =>
          rw [hg] at x2
          have CM : Hid (∀ a0 : Act, a0.tmps.size = 58 → a0.eval (.tmp 4) = .pointer (some ⟨w.heap.size + 2, 0, none⟩) → a0.eval (.tmp 5) = .pointer (some ⟨w.heap.size + 3, 0, none⟩) → a0.eval (.tmp 0) = .slice (some ⟨ba, oa, none⟩) l.length c → a0.eval (.tmp 6) = .int .i64 (i : Int) → CMb (rops Try.f16 8) a0 wr (w.heap.size + 2) (w.heap.size + 3) ba oa l.length c i u' A5 n5 c5 (acts [] (l.take i)) p) := fun a0 q1 q2 q3 q4 q5 =>
            ⟨rfl, q1, q2, q3, q4, q5, hb2, hb3, by omega, ht, hr, by omega, hlt, x0, x1, hsh.1, hsh.2⟩
          have ha : actP (acts [] (l.take i)) p = ins p.k p.v (acts [] (l.take i)) := by unfold actP; rw [if_neg (by rw [hg]; decide)]
          rw [ha] at FIN
          clear hb0 hb1 hb2 hb3 ht hr hnx hz hh hof hol hsh hi ha x0 x1 hlt
          go_wp2_with fail
          refine rgMb (CM.out _ rfl rfl rfl rfl rfl) ?_
          intro x32 x33 x34 x35 x36 x37 x38 x39 x40 x41 x42 x43 x44 x45 x46 x47 x48 x49 x50 x51 x52 x53 x54 x55 W' g1 g2 g3
          obtain ⟨f1, f2⟩ := FIN.out W' _ rfl g1 g2 g3
          have F2 := Lib.hid f2
          clear CM FIN f2 g1 g2 g3
          go_wp2
          go_roundg (gk - 1)
          case measure => exact f1
          case rel => exact ⟨i + 1, by push_cast; rfl, F2⟩
    · have e2 : decide ((i : Int) < (l.length : Int)) = false := by simpa using hlt
      have e3 : decide (i < l.length) = false := by simpa using hlt
      have c4 : wr.cell? ⟨w.heap.size + 2, 0, none⟩ = some (.pointer u') := hb2.at0 (Nx.refl wr)
      have c5' : wr.cell? ⟨w.heap.size + 3, 0, none⟩ = some (.slice A5 n5 c5) := hb3.at0 (Nx.refl wr)
      have c0 : wr.cell? ⟨w.heap.size, 0, none⟩ = some (.pointer none) := hb0.at0 (Nx.refl wr)
      have c1 : wr.cell? ⟨w.heap.size + 1, 0, none⟩ = some (.slice none 0 0) := hb1.at0 (Nx.refl wr)
      have f0 := hb0.frozen 0
      have f1 := hb1.frozen 0
      have FIN : Hid (BlkIs ((wr.setCell ⟨w.heap.size, 0, none⟩ (.pointer u')).setCell ⟨w.heap.size + 1, 0, none⟩ (.slice A5 n5 c5)).drew w.heap.size 24 #[.pointer u'] ∧ BlkIs ((wr.setCell ⟨w.heap.size, 0, none⟩ (.pointer u')).setCell ⟨w.heap.size + 1, 0, none⟩ (.slice A5 n5 c5)).drew (w.heap.size + 1) 36 #[.slice A5 n5 c5] ∧ Tb ((wr.setCell ⟨w.heap.size, 0, none⟩ (.pointer u')).setCell ⟨w.heap.size + 1, 0, none⟩ (.slice A5 n5 c5)).drew (.agg #[.pointer u']) (acts [] l) ∧ Rt ((wr.setCell ⟨w.heap.size, 0, none⟩ (.pointer u')).setCell ⟨w.heap.size + 1, 0, none⟩ (.slice A5 n5 c5)).drew (.agg #[.slice A5 n5 c5]) (acts [] l) ∧ Nx w ((wr.setCell ⟨w.heap.size, 0, none⟩ (.pointer u')).setCell ⟨w.heap.size + 1, 0, none⟩ (.slice A5 n5 c5)).drew) := by
        have h1 := hb1.chd (Chd.set _ w.heap.size 0 (.pointer u')) (by omega)
        rw [List.take_of_length_le (by omega)] at ht hr
        refine ⟨((hb0.set 0 _).chd (Chd.set _ _ 0 _) (by omega)).drew, (h1.set 0 _).drew, ((ht.store hb0 (by decide) 0 _).store h1 (by decide) 0 _).drw, ((hr.store hb0 (fun s h => by cases h) _).store h1 (fun s h => by cases h) _).nx (Nx.refl _).drew, ((hnx.set _ 0 _ (Nat.le_refl _)).set _ 0 _ (by omega)).drew⟩
      clear hb0 hb1 hb2 hb3 ht hr hnx hz hh hi hlt
      go_wp2_with fail
      go_region
      go_wp2_with fail
      refine bodyPost_ret (results_cells2 rfl _ _ ⟨w.heap.size, 0, none⟩ ⟨w.heap.size + 1, 0, none⟩ (.agg #[.pointer u']) (.agg #[.slice A5 n5 c5]) rfl rfl (run_loadVar_row _ _ _ _ _ _ _ FIN.out.1 Try.underlying24 rfl (by kernel_rfl)) (run_loadVar_row _ _ _ _ _ _ _ FIN.out.2.1 Try.underlying36 rfl (by kernel_rfl))) rfl ?_
      exact ⟨_, _, rfl, FIN.out.2.2⟩
end Go.Proofs.Ytekcphpeaoaaaaa

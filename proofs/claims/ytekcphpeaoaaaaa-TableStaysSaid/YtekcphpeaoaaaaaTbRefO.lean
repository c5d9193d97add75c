/- Package table, the reference: Of. -/
import Derived.Test.YtekcphpeaoaaaaaTbRefP
namespace Go.Proofs.Ytekcphpeaoaaaaa
open Go.RowKit Go.Shelf
set_option linter.unusedVariables false

attribute [local go_sem] Oper.semAt_some

theorem RdC.set {w : World} {v : Value} {l : List Pr} (h : RdC w v l) {g : Nat} {ty : TypeId} {x : Value} (hb : BlkIs w g ty #[x]) (hx : ∀ s, x ≠ .string s) (u : Value) : RdC (w.setCell ⟨g, 0, none⟩ u) v l := by
  obtain ⟨A, c, rfl, h1, h2, h3⟩ := h
  refine ⟨A, c, rfl, h1, h2, ?_⟩
  rcases h3 with h3 | ⟨b, o, e, hc⟩
  · exact .inl h3
  · cases l with
    | nil => exact .inl rfl
    | cons p l =>
      right
      refine ⟨b, o, e, fun j v hv => ?_⟩
      have h0 := hc 0 (.string (S p.k)) rfl
      have hbg : b ≠ g := fun e => by
        subst e
        rw [hb.cell, Nat.add_zero] at h0
        cases o with
        | zero => exact hx _ (by simpa using h0)
        | succ o => simp at h0
      have hj := hc j v hv
      rw [World.cell?_of_block ((Chd.set w g 0 u).block b (World.block_lt_of_cell? w ⟨b, o + j, none⟩ hj) hbg)]
      exact hj
theorem Rt.store {w : World} {T' : Value} {xs : List KV} (h : Rt w T' xs) {g : Nat} {ty : TypeId} {x : Value} (hb : BlkIs w g ty #[x]) (hx : ∀ s, x ≠ .string s) (u : Value) : Rt (w.setCell ⟨g, 0, none⟩ u) T' xs := by
  obtain ⟨s, e, hr, hp⟩ := h
  exact ⟨s, e, hr.set hb hx u, hp⟩
theorem Rt.agg {w : World} {T' : Value} {xs : List KV} (h : Rt w T' xs) : ∃ A n c, T' = .agg #[.slice A n c] := by
  obtain ⟨s, e, hr, _⟩ := h
  obtain ⟨A, c, e2, _⟩ := hr
  exact ⟨A, _, c, by rw [e, e2]⟩
theorem slice_no (A : Option Addr) (n c : Nat) : ∀ s, Value.slice A n c ≠ .string s := fun s h => by cases h
def RfI (w : World) (l : List Pr) (i n : Nat) (wr : World) : Prop :=
  i + n = l.length ∧ ∃ A m c, BlkIs wr (w.heap.size + 1) 36 #[.slice A m c] ∧ BlkIs wr w.heap.size 36 #[.slice none 0 0] ∧ Rt wr (.agg #[.slice A m c]) (ofL (l.take i)) ∧ Nx w wr ∧ w.heap.size + 2 ≤ wr.heap.size

set_option maxRecDepth 100000 in
set_option maxHeartbeats 2000000 in
theorem rof_any (w : World) (v : Value) (l : List Pr) (h : Rd w v l) (hn : l.length < 100000000) :
    Calls Try.prog 33 #[v] w (Ret fun r w' => Rt w' r (ofL l) ∧ Nx w w') := by
  have hv : ∃ A c, v = .slice A l.length c := by rcases h with ⟨_, c, rfl, rfl⟩ | ⟨_, _, c, rfl, _⟩ <;> exact ⟨_, _, rfl⟩
  obtain ⟨A, c, rfl⟩ := hv
  have HA := Lib.hid h
  obtain ⟨W, hW⟩ : ∃ W, (w.alloc (.cells #[.slice none 0 0] 36)).alloc (.cells #[.slice none 0 0] 36) = W := ⟨_, rfl⟩
  have START : Hid (RfI w l 0 l.length W) := by
    have a1 := box_blk w (.slice none 0 0) 36
    have a2 := box_blk (w.alloc (.cells #[.slice none 0 0] 36)) (.slice none 0 0) 36
    rw [World.size_alloc] at a2
    rw [← hW]
    exact ⟨by omega, none, 0, 0, a2, a1.nx ((Nx.refl _).alloc _), Rt.zero _, ((Nx.refl w).alloc _).alloc _, by simp⟩
  clear h
  go_enter Try.func33, Try.ntmps33
  go_wp2
  go_loopg [4] l.length (fun n p4 wr => ∃ (i : Nat), p4 = .int .i64 (i : Int) ∧ Hid (RfI w l i n wr))
  case atStart => exact ⟨0, rfl, by first | exact START.out | (rw [hW]; exact START.out)⟩
  case round =>
    obtain ⟨i, rfl, hh⟩ := hrel
    clear START hW
    obtain ⟨hi, A1, m1, c1, hb, hb0, ht, hnx, hz⟩ := hh.out
    by_cases hlt : i < l.length
    · have e2 : decide ((i : Int) < (l.length : Int)) = true := by simpa using hlt
      have e3 : (0 : Int) ≤ (i : Int) := by omega
      have e4 : (i : Int) < (l.length : Int) := by omega
      rcases (Rd.nx HA.out hnx) with ⟨_, _, _, e⟩ | ⟨ba, oa, c2, ea, hca⟩
      · rw [e] at hlt; cases hlt
      · simp only [Value.slice.injEq] at ea
        obtain ⟨rfl, _, rfl⟩ := ea
        obtain ⟨x0, x1, x2⟩ := Rd.cells hca i hlt
        have hof := ofL_take l i hlt
        have hol := ofL_len (l.take i)
        rw [List.length_take] at hol
        generalize l[i] = p at *
        have hw : IntKind.i64.wrap ((i : Int) + 1) = (i : Int) + 1 := IntWalk.i64_in _ (by omega)
        have c3 : wr.cell? ⟨w.heap.size + 1, 0, none⟩ = some (.slice A1 m1 c1) := by rw [hb.cell]; rfl
        have PT := Lib.hid (rput_any wr.drew (.agg #[.slice A1 m1 c1]) _ p.k p.v (ht.nx (Nx.drew (Nx.refl wr))) (by omega))
        have FIN : Hid (∀ A2 m2 c2 w', Rt w' (.agg #[.slice A2 m2 c2]) (ins p.k p.v (ofL (l.take i))) → Nx wr w' → w'.cell? ⟨w.heap.size + 1, 0, none⟩ = some (.slice A1 m1 c1) ∧ w'.frozen? ⟨w.heap.size + 1, 0, none⟩ = false ∧ gk - 1 < gk ∧ RfI w l (i + 1) (gk - 1) (w'.setCell ⟨w.heap.size + 1, 0, none⟩ (.slice A2 m2 c2))) := fun A2 m2 c2 w' ht' hn' => by
          have hb' := hb.nx hn'
          have s1 := hn'.size
          refine ⟨by rw [hb'.cell]; rfl, hb'.frozen 0, by omega, by omega, A2, m2, c2, hb'.set 0 _, ((hb0.nx hn').chd (Chd.set _ _ 0 _) (by omega)), ?_, (hnx.trans hn').set _ 0 _ (by omega), by simp; omega⟩
          rw [hof]
          exact ht'.store hb' (slice_no _ _ _) _
        clear hca hb hb0 ht hnx hz hh hof hol hi
        go_wp2_with fail
        go_region_with (go_at_call 45; refine PT.out.mono ?_; rintro e w' ⟨r, rfl, ht', hn'⟩; obtain ⟨A2, m2, cc, rfl⟩ := ht'.agg; obtain ⟨g1, g2, g3, g4⟩ := FIN.out A2 m2 cc w' ht' ((Nx.drew (Nx.refl wr)).trans hn'); have G4 := Lib.hid g4; clear g4 ht')
        all_goals
          clear x0 x1 c3
          go_wp2
          go_roundg (gk - 1)
          case measure => exact g3
          case rel => exact ⟨i + 1, by push_cast; rfl, G4⟩
    · have e2 : decide ((i : Int) < (l.length : Int)) = false := by simpa using hlt
      have e3 : decide (i < l.length) = false := by simpa using hlt
      have c3 : wr.cell? ⟨w.heap.size + 1, 0, none⟩ = some (.slice A1 m1 c1) := by rw [hb.cell]; rfl
      have c0 : wr.cell? ⟨w.heap.size, 0, none⟩ = some (.slice none 0 0) := by rw [hb0.cell]; rfl
      have f0 := hb0.frozen 0
      have FIN : Hid (BlkIs (wr.setCell ⟨w.heap.size, 0, none⟩ (.slice A1 m1 c1)) w.heap.size 36 #[.slice A1 m1 c1] ∧ Rt (wr.setCell ⟨w.heap.size, 0, none⟩ (.slice A1 m1 c1)) (.agg #[.slice A1 m1 c1]) (ofL l) ∧ Nx w (wr.setCell ⟨w.heap.size, 0, none⟩ (.slice A1 m1 c1))) := by
        refine ⟨hb0.set 0 _, ?_, hnx.set _ 0 _ (Nat.le_refl _)⟩
        have := ht.store hb0 (slice_no _ _ _) (.slice A1 m1 c1)
        rwa [List.take_of_length_le (by omega)] at this
      clear hb hb0 ht hnx hz hh hi hlt
      go_wp2_with fail
      refine bodyPost_ret (results_cell_row rfl _ _ w.heap.size 36 #[.slice A1 m1 c1] (0, 0) _ rfl FIN.out.1 Try.underlying36 rfl (by kernel_rfl)) rfl ?_
      exact ⟨_, rfl, FIN.out.2⟩
end Go.Proofs.Ytekcphpeaoaaaaa

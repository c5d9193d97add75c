/- Package table: done. -/
import Derived.Test.YtekcphpeaoaaaaaTbLight
namespace Go.Proofs.Ytekcphpeaoaaaaa
open Go.RowKit Go.Shelf
set_option linter.unusedVariables false

attribute [local go_sem] Oper.semAt_some

/-- A put, or a drop. -/
def actP (xs : List KV) (p : Pr) : List KV := if p.g then era p.k xs else ins p.k p.v xs
def acts (xs : List KV) (l : List Pr) : List KV := l.foldl actP xs
theorem acts_take (xs : List KV) (l : List Pr) (i : Nat) (h : i < l.length) : acts xs (l.take (i + 1)) = actP (acts xs (l.take i)) l[i] := by
  rw [List.take_succ_eq_append_getElem h]; unfold acts; rw [List.foldl_append]; rfl
theorem actP_len (xs : List KV) (p : Pr) : (actP xs p).length ≤ xs.length + 1 := by
  unfold actP
  split
  · have := era_length (k := p.k) (xs := xs); omega
  · exact ins_length
theorem acts_len : ∀ (l : List Pr) (xs : List KV), (acts xs l).length ≤ xs.length + l.length
  | [], xs => Nat.le_refl _
  | p :: l, xs => by
    have h1 := acts_len l (actP xs p)
    have h2 := actP_len xs p
    show (acts (actP xs p) l).length ≤ _
    simp only [List.length_cons]
    omega
theorem actP_srt {xs : List KV} (h : Srt xs) (p : Pr) : Srt (actP xs p) := by unfold actP; split <;> first | exact era_srt h | exact ins_srt h
theorem acts_srt : ∀ (l : List Pr) {xs : List KV}, Srt xs → Srt (acts xs l)
  | [], _, h => h
  | p :: l, _, h => acts_srt l (actP_srt h p)
def DoI (w : World) (xs : List KV) (l : List Pr) (i n : Nat) (wr : World) : Prop :=
  i + n = l.length ∧ ∃ u, BlkIs wr w.heap.size 24 #[.pointer u] ∧ BlkIs wr (w.heap.size + 1) 24 #[.pointer none] ∧ Tb wr (.agg #[.pointer u]) (acts xs (l.take i)) ∧ Nx w wr ∧ w.heap.size + 2 ≤ wr.heap.size

set_option maxRecDepth 100000 in
set_option maxHeartbeats 1000000 in
theorem done_any (w : World) (T' v : Value) (xs : List KV) (l : List Pr) (hT : Tb w T' xs) (h : Rd w v l) (hs : ShortP l) (hn : xs.length + l.length < 100000000) :
    Calls Try.prog 36 #[T', v] w (Ret fun r w' => Tb w' r (acts xs l) ∧ Nx w w') := by
  have hv : ∃ A c, v = .slice A l.length c := by rcases h with ⟨_, c, rfl, rfl⟩ | ⟨_, _, c, rfl, _⟩ <;> exact ⟨_, _, rfl⟩
  obtain ⟨A, c, rfl⟩ := hv
  obtain ⟨u0, rfl⟩ := hT.agg
  have HA := Lib.hid h
  have HS := Lib.hid hs
  obtain ⟨W, hW⟩ : ∃ W, (w.alloc (.cells #[.pointer u0] 24)).alloc (.cells #[.pointer none] 24) = W := ⟨_, rfl⟩
  have START : Hid (DoI w xs l 0 l.length W) := by
    have a1 := box_blk w (.pointer u0) 24
    have a2 := box_blk (w.alloc (.cells #[.pointer u0] 24)) (.pointer none) 24
    rw [World.size_alloc] at a2
    have n2 : Nx w W := by rw [← hW]; exact ((Nx.refl w).alloc _).alloc _
    have ht := hT.nx n2
    rw [← hW] at ht ⊢
    exact ⟨by omega, u0, a1.nx ((Nx.refl _).alloc _), a2, ht, ((Nx.refl w).alloc _).alloc _, by simp⟩
  clear h hs hT
  go_enter Try.func36, Try.ntmps36
  go_wp2
  go_loopg [5] l.length (fun n p5 wr => ∃ (i : Nat), p5 = .int .i64 (i : Int) ∧ Hid (DoI w xs l i n wr))
  case atStart => exact ⟨0, rfl, by first | exact START.out | (rw [hW]; exact START.out)⟩
  case round =>
    obtain ⟨i, rfl, hh⟩ := hrel
    clear START hW
    obtain ⟨hi, u, hb, hb1, ht, hnx, hz⟩ := hh.out
    by_cases hlt : i < l.length
    · have e2 : decide ((i : Int) < (l.length : Int)) = true := by simpa using hlt
      have e3 : (0 : Int) ≤ (i : Int) := by omega
      have e4 : (i : Int) < (l.length : Int) := by omega
      have hbw : ∀ b o, (⟨b, o, none⟩ : Addr) = ⟨b, o, none⟩ := fun _ _ => rfl
      rcases HA.out with ⟨_, _, _, e⟩ | ⟨ba, oa, c1, ea, hca⟩
      · rw [e] at hlt; cases hlt
      · simp only [Value.slice.injEq] at ea
        obtain ⟨rfl, _, rfl⟩ := ea
        obtain ⟨z0, z1, z2⟩ := Rd.cells hca i hlt
        have hbl := World.block_lt_of_cell? w _ z0
        have hbl : ba < w.heap.size := hbl
        have KP : Hid (∀ V, Nx w V → V.cell? ⟨ba, oa + i * 3, none⟩ = some (.string (S l[i].k)) ∧ V.cell? ⟨ba, oa + i * 3 + 1, none⟩ = some (.string (S l[i].v)) ∧ V.cell? ⟨ba, oa + i * 3 + 2, none⟩ = some (.bool l[i].g)) := fun V hV =>
          ⟨by rw [World.cell?_of_block (hV.block ba hbl)]; exact z0, by rw [World.cell?_of_block (hV.block ba hbl)]; exact z1, by rw [World.cell?_of_block (hV.block ba hbl)]; exact z2⟩
        have KS : Hid (∀ V v, Nx w V → (V.setCell ⟨w.heap.size, 0, none⟩ v).cell? ⟨ba, oa + i * 3, none⟩ = some (.string (S l[i].k)) ∧ (V.setCell ⟨w.heap.size, 0, none⟩ v).cell? ⟨ba, oa + i * 3 + 1, none⟩ = some (.string (S l[i].v))) := fun V v hV => by
          have := KP.out _ (hV.set w.heap.size 0 v (Nat.le_refl _))
          exact ⟨this.1, this.2.1⟩
        obtain ⟨x0, x1, x2⟩ := KP.out wr hnx
        have hsh := HS.out _ (List.getElem_mem hlt)
        have hof := acts_take xs l i hlt
        have hol := acts_len (l.take i) xs
        rw [List.length_take] at hol
        clear hca z0 z1 z2
        generalize l[i] = p at *
        have hw : IntKind.i64.wrap ((i : Int) + 1) = (i : Int) + 1 := IntWalk.i64_in _ (by omega)
        have c3 : wr.cell? ⟨w.heap.size, 0, none⟩ = some (.pointer u) := by rw [hb.cell]; rfl
        have FIN : Hid (∀ u' w', Tb w' (.agg #[.pointer u']) (actP (acts xs (l.take i)) p) → Nx wr w' → w'.cell? ⟨w.heap.size, 0, none⟩ = some (.pointer u) ∧ w'.frozen? ⟨w.heap.size, 0, none⟩ = false ∧ gk - 1 < gk ∧ DoI w xs l (i + 1) (gk - 1) (w'.setCell ⟨w.heap.size, 0, none⟩ (.pointer u'))) := fun u' w' ht' hn' => by
          have hb' := hb.nx hn'
          have s1 := hn'.size
          refine ⟨by rw [hb'.cell]; rfl, hb'.frozen 0, by omega, by omega, u', hb'.set 0 _, ((hb1.nx hn').chd (Chd.set _ _ 0 _) (by omega)), ?_, (hnx.trans hn').set _ 0 _ (Nat.le_refl _), by simp; omega⟩
          rw [hof]
          exact ht'.store hb' (by decide) 0 _
        have HNX := Lib.hid hnx
        cases hg : p.g with
        | true =>
          rw [hg] at x2
          have DR := Lib.hid (tdrop_any wr.drew (.agg #[.pointer u]) _ p.k (ht.nx (Nx.drew (Nx.refl wr))) (by omega))
          have ha : actP (acts xs (l.take i)) p = era p.k (acts xs (l.take i)) := by unfold actP; rw [if_pos hg]
          rw [ha] at FIN
          clear hb hb1 ht hnx hz hh hof hol hsh hi ha
          go_wp2_with fail
          go_region_with (go_at_call 14; refine DR.out.mono ?_; rintro e w' ⟨r, rfl, ht', hn'⟩; obtain ⟨u', rfl⟩ := ht'.agg; obtain ⟨g1, g2, g3, g4⟩ := FIN.out u' w' ht' ((Nx.drew (Nx.refl wr)).trans hn'); have G4 := Lib.hid g4; clear g4 ht')
          all_goals
            clear x0 x1 c3
            go_wp2
            go_roundg (gk - 1)
            case measure => exact g3
            case rel => exact ⟨i + 1, by push_cast; rfl, G4⟩
        | false =>
          rw [hg] at x2
          have PT := Lib.hid (tput_any wr.drew (.agg #[.pointer u]) _ p.k p.v (ht.nx (Nx.drew (Nx.refl wr))) (by omega) hsh.1 hsh.2)
          have ha : actP (acts xs (l.take i)) p = ins p.k p.v (acts xs (l.take i)) := by unfold actP; rw [if_neg (by rw [hg]; decide)]
          rw [ha] at FIN
          clear hb hb1 ht hnx hz hh hof hol hsh hi ha
          go_wp2_with fail
          go_region_with (go_at_call 10; refine PT.out.mono ?_; rintro e w' ⟨r, rfl, ht', hn'⟩; obtain ⟨u', rfl⟩ := ht'.agg; obtain ⟨g1, g2, g3, g4⟩ := FIN.out u' w' ht' ((Nx.drew (Nx.refl wr)).trans hn'); have G4 := Lib.hid g4; clear g4 ht')
          all_goals
            clear x0 x1 c3
            go_wp2
            go_roundg (gk - 1)
            case measure => exact g3
            case rel => exact ⟨i + 1, by push_cast; rfl, G4⟩
    · have e2 : decide ((i : Int) < (l.length : Int)) = false := by simpa using hlt
      have e3 : decide (i < l.length) = false := by simpa using hlt
      have c3 : wr.cell? ⟨w.heap.size, 0, none⟩ = some (.pointer u) := by rw [hb.cell]; rfl
      have c0 : wr.cell? ⟨w.heap.size + 1, 0, none⟩ = some (.pointer none) := by rw [hb1.cell]; rfl
      have f0 := hb1.frozen 0
      have FIN : Hid (BlkIs (wr.setCell ⟨w.heap.size + 1, 0, none⟩ (.pointer u)) (w.heap.size + 1) 24 #[.pointer u] ∧ Tb (wr.setCell ⟨w.heap.size + 1, 0, none⟩ (.pointer u)) (.agg #[.pointer u]) (acts xs l) ∧ Nx w (wr.setCell ⟨w.heap.size + 1, 0, none⟩ (.pointer u))) := by
        refine ⟨hb1.set 0 _, ?_, hnx.set _ 0 _ (by omega)⟩
        have := ht.store hb1 (by decide) 0 (.pointer u)
        rwa [List.take_of_length_le (by omega)] at this
      clear hb hb1 ht hnx hz hh hi hlt
      go_wp2_with fail
      refine bodyPost_ret (results_cell_row rfl _ _ (w.heap.size + 1) 24 #[.pointer u] (0, 0) _ rfl FIN.out.1 Try.underlying24 rfl (by kernel_rfl)) rfl ?_
      exact ⟨_, rfl, FIN.out.2⟩
end Go.Proofs.Ytekcphpeaoaaaaa

/- Package table, the reference: Drop. -/
import Derived.Test.YtekcphpeaoaaaaaTbRefB
namespace Go.Proofs.Ytekcphpeaoaaaaa
open Go.RowKit Go.Shelf
set_option linter.unusedVariables false

attribute [local go_sem] Oper.semAt_some

set_option maxRecDepth 100000 in
set_option maxHeartbeats 1000000 in
theorem rdrop_any (w : World) (T' : Value) (xs : List KV) (key : Str) (h : Rt w T' xs) (hn : xs.length ≤ 100000000) :
    Calls Try.prog 44 #[T', .string (S key)] w (Ret fun r w' => Rt w' r (era key xs) ∧ Nx w w') := by
  have HT := h
  obtain ⟨s, rfl, hr, _⟩ := h
  obtain ⟨A, c, rfl⟩ : ∃ A c, s = .slice A xs.length c := by
    obtain ⟨A, c, e, _⟩ := hr
    rw [List.length_map] at e
    exact ⟨A, c, e⟩
  obtain ⟨W, hW⟩ : ∃ W, (w.alloc (.cells #[.slice A xs.length c] 36)).alloc (.cells #[.slice none 0 0] 36) = W := ⟨_, rfl⟩
  have n1 : Nx w W := by rw [← hW]; exact ((Nx.refl w).alloc _).alloc _
  have hb0 : BlkIs W w.heap.size 36 #[.slice A xs.length c] := by rw [← hW]; exact (box_blk w _ _).nx ((Nx.refl _).alloc _)
  have hb1 : BlkIs W (w.heap.size + 1) 36 #[.slice none 0 0] := by
    rw [← hW]
    have := box_blk (w.alloc (.cells #[.slice A xs.length c] 36)) (.slice none 0 0) 36
    rwa [World.size_alloc] at this
  have c0 : W.cell? ⟨w.heap.size, 0, none⟩ = some (.slice A xs.length c) := by rw [hb0.cell]; rfl
  have PL := Lib.hid (rplace_any W _ xs key (HT.nx n1) hn)
  have N1 := Lib.hid n1
  have B0 := Lib.hid hb0
  have B1 := Lib.hid hb1
  have HR := Lib.hid (hr.nx n1)
  have hla := hit_at key xs
  have hple := place_le key xs
  have HER : Hid (era key xs = if hit key xs then xs.take (place key xs) ++ xs.drop (place key xs + 1) else xs) := rfl
  have HT0 := Lib.hid HT
  have HRW := Lib.hid hr
  clear hr n1 hb0 hb1 HT
  go_enter Try.func44, Try.ntmps44
  go_wp2_with fail
  refine PL.out.mono ?_
  rintro e w2 ⟨rfl, hn2⟩
  have b2 := B0.out.nx hn2
  have b3 := B1.out.nx hn2
  have c2 : w2.cell? ⟨w.heap.size, 0, none⟩ = some (.slice A xs.length c) := by rw [b2.cell]; rfl
  have c3 : w2.cell? ⟨w.heap.size + 1, 0, none⟩ = some (.slice none 0 0) := by rw [b3.cell]; rfl
  have f3 := b3.frozen 0
  have n2 : Nx w w2 := N1.out.trans hn2
  have HR2 := Lib.hid (HR.out.nx hn2)
  have s2 := n2.size
  have z2 : w.heap.size + 2 ≤ w2.heap.size := by have := b3.lt; omega
  have KEEP : Hid (BlkIs (w2.setCell ⟨w.heap.size + 1, 0, none⟩ (.slice A xs.length c)) (w.heap.size + 1) 36 #[.slice A xs.length c] ∧ Rt (w2.setCell ⟨w.heap.size + 1, 0, none⟩ (.slice A xs.length c)) (.agg #[.slice A xs.length c]) xs ∧ Nx w (w2.setCell ⟨w.heap.size + 1, 0, none⟩ (.slice A xs.length c))) := by
    have n3 := n2.set (w.heap.size + 1) 0 (.slice A xs.length c) (by omega)
    exact ⟨b3.set 0 _, HT0.out.nx n3, n3⟩
  have NEW : Hid (∀ V v' (L : List KV), Row V w2.heap.size v' (L.map prOf) → Nx w2 V → V.cell? ⟨w.heap.size + 1, 0, none⟩ = some (.slice none 0 0) ∧ V.frozen? ⟨w.heap.size + 1, 0, none⟩ = false ∧ BlkIs (V.setCell ⟨w.heap.size + 1, 0, none⟩ v') (w.heap.size + 1) 36 #[v'] ∧ Rt (V.setCell ⟨w.heap.size + 1, 0, none⟩ v') (.agg #[v']) L ∧ Nx w (V.setCell ⟨w.heap.size + 1, 0, none⟩ v')) := fun V v' L hrow hV => by
    have b4 := b3.nx hV
    refine ⟨by rw [b4.cell]; rfl, b4.frozen 0, b4.set 0 _, ⟨v', rfl, Row.rdc (B := w2.heap.size) (row_of_blk hrow fun j hj => ?_), hrow.pln⟩, (n2.trans hV).set _ 0 _ (by omega)⟩
    have := (own_row_blk' hrow hj).1
    exact (Chd.set V (w.heap.size + 1) 0 v').block j (by
      obtain ⟨_, cs, hc⟩ := own_row_blk' hrow hj
      exact hc.lt) (by omega)
  have HB2 := Lib.hid b2
  have HN2 := Lib.hid n2
  clear PL hn2 hW c0 b2 b3 n2 s2
  by_cases hlt : place key xs < xs.length
  · rw [dif_pos hlt] at hla
    obtain ⟨b, o, rfl⟩ := HR2.out.addr (by rw [List.length_map]; omega)
    have hcap : xs.length ≤ c ∧ c ≤ 9223372036854775807 := by
      obtain ⟨A', c', e, h1, h2, _⟩ := HR2.out
      rw [List.length_map] at e h1
      simp only [Value.slice.injEq] at e
      obtain ⟨_, _, rfl⟩ := e
      exact ⟨h1, h2⟩
    obtain ⟨x0, x1, _⟩ := HR2.out.key _ hlt
    have e1 : ((place key xs : Int) == (xs.length : Int)) = false := by simp; omega
    have e3 : (0 : Int) ≤ (place key xs : Int) := by omega
    have e4 : (place key xs : Int) < (xs.length : Int) := by omega
    generalize xs[place key xs] = ev at *
    have hse := S_eq ev.1 key
    by_cases hk : ev.1 = key
    · rw [decide_eq_true hk] at hla hse
      have hER := HER.out
      rw [hla, if_pos rfl] at hER
      have TK := Lib.hid (RdC.take (by have := HRW.out; rwa [show xs.length = (xs.map prOf).length from (List.length_map ..).symm] at this) (place key xs) (by rw [List.length_map]; omega))
      have DP := Lib.hid (fun A' c' => RdC.dropN (by have := HRW.out; rwa [show xs.length = (xs.map prOf).length from (List.length_map ..).symm] at this) (place key xs + 1) (by rw [List.length_map]; omega) A' c')
      have g1 : (place key xs : Int) ≤ (c : Int) := by omega
      have g2 : IntKind.i64.wrap ((place key xs : Int) + 1) = (place key xs : Int) + 1 := IntWalk.i64_in _ (by omega)
      have g3 : (0 : Int) ≤ (place key xs : Int) + 1 := by omega
      have g4 : (place key xs : Int) + 1 ≤ (xs.length : Int) := by omega
      have g5 : (xs.length : Int) ≤ (c : Int) := by omega
      have HE := Lib.hid hER
      clear hER hla hk hple KEEP
      generalize place key xs = pl at *
      have XL : Hid ((xs.map prOf).length = xs.length ∧ pl < xs.length ∧ xs.length ≤ 100000000) := ⟨List.length_map .., hlt, hn⟩
      have GR : Hid (∀ (V V' : World) (v : Value) (l : List Pr), Row V w2.heap.size v l → V.grownBy V' v.ownBlock → w2.heap.size ≤ V.heap.size → Below w2.heap.size V V') := fun V V' v l h1 h2 h3 => (Chd.of_grown h2).below h3 fun j hj e => by have := (own_row_blk' h1 e).1; omega
      clear hlt hcap hn
      have hpn : pl ≤ xs.length := by have := XL.out; omega
      have hnc : xs.length ≤ c := by omega
      have hpl1 : pl + 1 ≤ xs.length := by have := XL.out; omega
      have DP2 : Hid (∀ (A' : Addr) (c' : Nat), (A' = ⟨b, o + (pl + 1) * 3, none⟩ ∧ c' = c - (pl + 1)) ∨ (xs.length = pl + 1 ∧ c' = 0) → RdC w (.slice (some A') (xs.length - (pl + 1)) c') ((xs.map prOf).drop (pl + 1))) := fun A' c' h => by
        have h2 := DP.out A' c' (h.imp id fun ⟨h1, h2⟩ => ⟨by rw [List.length_map]; exact h1, h2⟩)
        rwa [List.length_map] at h2
      have N3 : Hid (Nx w2 (w2.drew.alloc (.cells #[] 40))) := ((Nx.refl w2).drew).alloc _
      have HL9 : Hid (([] ++ (xs.map prOf).take pl ++ (xs.map prOf).drop (pl + 1)).length = pl + (xs.length - (pl + 1))) := by
        show _ = _
        simp only [List.nil_append, List.length_append, List.length_take, List.length_drop, List.length_map]; omega
      by_cases hc : c = pl + 1
      · subst hc
        have q1 : (pl : Int) ≤ (pl : Int) + 1 := by omega
        have q2 : pl ≤ pl + 1 := by omega
        have hX : Hid (xs.length = pl + 1) := by show _ = _; omega
        have hz : Hid (xs.length - (pl + 1) = 0) := by show _ = _; omega
        have HLX : Hid (([] ++ (xs.map prOf).take pl ++ (xs.map prOf).drop (pl + 1)).length = pl) := by show _ = _; rw [HL9.out, hz.out]; rfl
        have DP3 : Hid (RdC w (.slice (some ⟨b, o, none⟩) 0 0) ((xs.map prOf).drop (pl + 1))) := by
          have h := DP2.out ⟨b, o, none⟩ 0 (.inr ⟨hX.out, rfl⟩)
          rwa [hz.out] at h
        go_wp2_with fail
        go_region_held3 (fun V => V.cell? ⟨w.heap.size, 0, none⟩ = some (.slice (some ⟨b, o, none⟩) xs.length (pl + 1)))
          (first | (rw [(HB2.out.nx n4).cell]; rfl) | (rw [(HB2.out.nx n3).cell]; rfl) | go_keep)
          ((first
            | (refine step_app rfl _ _ rfl w2.heap.size (.slice (some ⟨w2.heap.size, 0, none⟩) 0 0) _ [] _ rfl rfl (row_new w2.drew w2.heap.size (Nat.le_refl _)) (TK.out.nx (HN2.out.trans N3.out)) (by rw [List.length_take]; have := XL.out; simp only [List.length_nil]; omega) (by simp) ?_; intro v1 w3 hrow1 hg1; have n3 : Nx w2 w3 := Below.trans N3.out (GR.out _ _ _ _ (row_new w2.drew w2.heap.size (Nat.le_refl _)) hg1 (by simp)))
            | (refine step_app rfl _ _ rfl w2.heap.size v1 _ ([] ++ (xs.map prOf).take pl) ((xs.map prOf).drop (pl + 1)) rfl rfl hrow1 (DP3.out.nx (HN2.out.trans n3)) (by rw [List.length_append, List.length_take, List.length_drop]; have := XL.out; simp only [List.length_nil]; omega) n3.size ?_; intro v2 w4 hrow2 hg2; obtain ⟨A9, c9, rfl⟩ := own_slice hrow2; have n4 : Nx w2 w4 := Below.trans n3 (GR.out _ _ _ _ hrow1 hg2 n3.size); obtain ⟨k1, k2, k3, k4⟩ := NEW.out w4 _ (xs.take pl ++ xs.drop (pl + 1)) (by rw [List.map_append, List.map_take, List.map_drop]; exact hrow2) n4; rw [HLX.out] at k3 k4; have K3 := Lib.hid k3; have K4 := Lib.hid k4; clear k3 k4)))
        clear k1 k2
        go_wp2_with fail
        refine bodyPost_ret (results_cell_row rfl _ _ (w.heap.size + 1) 36 #[.slice A9 pl c9] (0, 0) _ rfl K3.out Try.underlying36 rfl (by kernel_rfl)) rfl ?_
        exact ⟨_, rfl, by rw [HE.out]; exact K4.out⟩
      · go_wp2_with fail
        go_region_held3 (fun V => V.cell? ⟨w.heap.size, 0, none⟩ = some (.slice (some ⟨b, o, none⟩) xs.length c))
          (first | (rw [(HB2.out.nx n4).cell]; rfl) | (rw [(HB2.out.nx n3).cell]; rfl) | go_keep)
          ((first
            | (refine step_app rfl _ _ rfl w2.heap.size (.slice (some ⟨w2.heap.size, 0, none⟩) 0 0) _ [] _ rfl rfl (row_new w2.drew w2.heap.size (Nat.le_refl _)) (TK.out.nx (HN2.out.trans N3.out)) (by rw [List.length_take]; have := XL.out; simp only [List.length_nil]; omega) (by simp) ?_; intro v1 w3 hrow1 hg1; have n3 : Nx w2 w3 := Below.trans N3.out (GR.out _ _ _ _ (row_new w2.drew w2.heap.size (Nat.le_refl _)) hg1 (by simp)))
            | (refine step_app rfl _ _ rfl w2.heap.size v1 _ ([] ++ (xs.map prOf).take pl) ((xs.map prOf).drop (pl + 1)) rfl rfl hrow1 ((DP2.out ⟨b, o + (pl + 1) * 3, none⟩ (c - (pl + 1)) (.inl ⟨rfl, rfl⟩)).nx (HN2.out.trans n3)) (by rw [List.length_append, List.length_take, List.length_drop]; have := XL.out; simp only [List.length_nil]; omega) n3.size ?_; intro v2 w4 hrow2 hg2; obtain ⟨A9, c9, rfl⟩ := own_slice hrow2; have n4 : Nx w2 w4 := Below.trans n3 (GR.out _ _ _ _ hrow1 hg2 n3.size); obtain ⟨k1, k2, k3, k4⟩ := NEW.out w4 _ (xs.take pl ++ xs.drop (pl + 1)) (by rw [List.map_append, List.map_take, List.map_drop]; exact hrow2) n4; rw [HL9.out] at k3 k4; have K3 := Lib.hid k3; have K4 := Lib.hid k4; clear k3 k4)))
        clear k1 k2
        go_wp2_with fail
        refine bodyPost_ret (results_cell_row rfl _ _ (w.heap.size + 1) 36 #[.slice A9 (pl + (xs.length - (pl + 1))) c9] (0, 0) _ rfl K3.out Try.underlying36 rfl (by kernel_rfl)) rfl ?_
        exact ⟨_, rfl, by rw [HE.out]; exact K4.out⟩
    · rw [decide_eq_false hk] at hla hse
      have hER : Hid (era key xs = xs) := by have h := HER.out; rw [hla] at h; exact h
      clear hla hk hple
      generalize place key xs = pl at *
      go_wp2_with fail
      refine bodyPost_ret (results_cell_row rfl _ _ (w.heap.size + 1) 36 #[.slice (some ⟨b, o, none⟩) xs.length c] (0, 0) _ rfl KEEP.out.1 Try.underlying36 rfl (by kernel_rfl)) rfl ?_
      exact ⟨_, rfl, by rw [hER.out]; exact KEEP.out.2⟩
  · rw [dif_neg hlt] at hla
    have e1 : ((place key xs : Int) == (xs.length : Int)) = true := by simp; omega
    have hER : Hid (era key xs = xs) := by have h := HER.out; rw [hla] at h; exact h
    clear hla hple hlt
    generalize place key xs = pl at *
    go_wp2_with fail
    refine bodyPost_ret (results_cell_row rfl _ _ (w.heap.size + 1) 36 #[.slice A xs.length c] (0, 0) _ rfl KEEP.out.1 Try.underlying36 rfl (by kernel_rfl)) rfl ?_
    exact ⟨_, rfl, by rw [hER.out]; exact KEEP.out.2⟩
end Go.Proofs.Ytekcphpeaoaaaaa

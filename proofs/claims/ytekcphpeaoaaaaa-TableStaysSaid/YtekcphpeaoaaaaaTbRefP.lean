/- Package table, the reference: Put. -/
import Derived.Test.YtekcphpeaoaaaaaTbRefC
namespace Go.Proofs.Ytekcphpeaoaaaaa
open Go.RowKit Go.Shelf
set_option linter.unusedVariables false

attribute [local go_sem] Oper.semAt_some

theorem rdc_one (w : World) (p : Pr) : RdC (w.alloc (.cells #[.string (S p.k), .string (S p.v), .bool p.g] 40)) (.slice (some ⟨w.heap.size, 0, none⟩) 1 1) [p] :=
  ⟨_, _, rfl, Nat.le_refl _, by omega, .inr ⟨_, _, rfl, fun j u hu => by
    rw [Nat.zero_add, (BlkIs.new w 40 #[.string (S p.k), .string (S p.v), .bool p.g]).cell]
    rw [prsC_one] at hu
    simpa [prC] using hu⟩⟩
theorem own_slice' {W : World} {B : Nat} {v : Value} {l : List Pr} (h : Row W B v l) : ∃ A n c, v = .slice A n c := by
  obtain ⟨A, c, e⟩ := own_slice h
  exact ⟨A, _, c, e⟩
theorem ins_eq (key val : Str) (xs : List KV) : (ins key val xs).map prOf = (([] ++ (xs.map prOf).take (place key xs)) ++ [⟨key, val, false⟩]) ++ (xs.map prOf).drop (place key xs + if hit key xs then 1 else 0) := by
  unfold ins
  rw [List.map_append, List.map_cons, List.map_take, List.map_drop, List.nil_append, List.append_assoc]
  rfl

set_option maxRecDepth 100000 in
set_option maxHeartbeats 2000000 in
theorem rput_any (w : World) (T' : Value) (xs : List KV) (key val : Str) (h : Rt w T' xs) (hn : xs.length ≤ 100000000) :
    Calls Try.prog 45 #[T', .string (S key), .string (S val)] w (Ret fun r w' => Rt w' r (ins key val xs) ∧ Nx w w') := by
  have HT := h
  obtain ⟨s, rfl, hr, hpln⟩ := h
  obtain ⟨A, c, rfl⟩ : ∃ A c, s = .slice A xs.length c := by
    obtain ⟨A, c, e, _⟩ := hr
    rw [List.length_map] at e
    exact ⟨A, c, e⟩
  obtain ⟨W, hW⟩ : ∃ W, (w.alloc (.cells #[.slice A xs.length c] 36)).alloc (.cells #[.slice none 0 0] 36) = W := ⟨_, rfl⟩
  have n1 : Nx w W := by rw [← hW]; exact ((Nx.refl w).alloc _).alloc _
  have hb0 : BlkIs W w.heap.size 36 #[.slice A xs.length c] := by rw [← hW]; exact (box_blk w _ _).nx ((Nx.refl _).alloc _)
  have hb1 : BlkIs W (w.heap.size + 1) 36 #[.slice none 0 0] := by
    rw [← hW]
    have := box_blk (w.alloc (.cells #[.slice A xs.length c] 36)) (.slice none 0 0) 36
    rwa [World.size_alloc] at this
  have c0 : W.cell? ⟨w.heap.size, 0, none⟩ = some (.slice A xs.length c) := by rw [hb0.cell]; rfl
  have PL := Lib.hid (rplace_any W _ xs key (HT.nx n1) hn)
  have N1 := Lib.hid n1
  have B0 := Lib.hid hb0
  have B1 := Lib.hid hb1
  have HR := Lib.hid (hr.nx n1)
  have hla := hit_at key xs
  have hple := place_le key xs
  have HEQ := Lib.hid (ins_eq key val xs)
  have HRW := Lib.hid hr
  clear hr n1 hb0 hb1 HT
  go_enter Try.func45, Try.ntmps45
  go_wp2_with fail
  refine PL.out.mono ?_
  rintro e w2 ⟨rfl, hn2⟩
  have b2 := B0.out.nx hn2
  have b3 := B1.out.nx hn2
  have c2 : w2.cell? ⟨w.heap.size, 0, none⟩ = some (.slice A xs.length c) := by rw [b2.cell]; rfl
  have n2 : Nx w w2 := N1.out.trans hn2
  have z2 : w.heap.size + 2 ≤ w2.heap.size := by have := b3.lt; omega
  have NEW : Hid (∀ V v' (L : List Pr), Row V w2.heap.size v' L → Nx w2 V → V.cell? ⟨w.heap.size + 1, 0, none⟩ = some (.slice none 0 0) ∧ V.frozen? ⟨w.heap.size + 1, 0, none⟩ = false ∧ BlkIs (V.setCell ⟨w.heap.size + 1, 0, none⟩ v') (w.heap.size + 1) 36 #[v'] ∧ (L = (ins key val xs).map prOf → Rt (V.setCell ⟨w.heap.size + 1, 0, none⟩ v') (.agg #[v']) (ins key val xs)) ∧ Nx w (V.setCell ⟨w.heap.size + 1, 0, none⟩ v')) := fun V v' L hrow hV => by
    have b4 := b3.nx hV
    refine ⟨by rw [b4.cell]; rfl, b4.frozen 0, b4.set 0 _, fun e => ⟨v', rfl, Row.rdc (B := w2.heap.size) (row_of_blk (e ▸ hrow) fun j hj => ?_), hrow.pln⟩, (n2.trans hV).set _ 0 _ (by omega)⟩
    have := (own_row_blk' hrow hj).1
    exact (Chd.set V (w.heap.size + 1) 0 v').block j (by
      obtain ⟨_, cs, hc⟩ := own_row_blk' hrow hj
      exact hc.lt) (by omega)
  have HB2 := Lib.hid b2
  have HN2 := Lib.hid n2
  have GR : Hid (∀ (V V' : World) (v : Value) (l : List Pr), Row V w2.heap.size v l → V.grownBy V' v.ownBlock → w2.heap.size ≤ V.heap.size → Below w2.heap.size V V') := fun V V' v l h1 h2 h3 => (Chd.of_grown h2).below h3 fun j hj e => by have := (own_row_blk' h1 e).1; omega
  have N3 : Hid (Nx w2 (w2.alloc (.cells #[] 40))) := (Nx.refl w2).alloc _
  clear PL hn2 hW c0 b2 b3 n2 B0 B1 N1
  have LEN1 : Hid (([] : List Pr).length + ((xs.map prOf).take (place key xs)).length ≤ 1000000000) := by show _ ≤ _; rw [List.length_take, List.length_map, List.length_nil]; omega
  have LEN2 : Hid (([] ++ (xs.map prOf).take (place key xs)).length + [(⟨key, val, false⟩ : Pr)].length ≤ 1000000000) := by show _ ≤ _; rw [List.length_append, List.length_take, List.length_map, List.length_nil, List.length_singleton]; omega
  have cA : (w2.alloc (.cells #[] 40)).cell? ⟨w.heap.size, 0, none⟩ = some (.slice A xs.length c) := by rw [(HB2.out.nx N3.out).cell]; rfl
  rcases hpln with e | ⟨b, o, n', c', e⟩
  · simp only [Value.slice.injEq] at e
    obtain ⟨rfl, h8, rfl⟩ := e
    obtain rfl : xs = [] := List.eq_nil_of_length_eq_zero h8
    have hp0 : place key [] = 0 := rfl
    have hh0 : hit key [] = false := rfl
    have LEN3 : Hid ((([] ++ (([] : List KV).map prOf).take (place key [])) ++ [(⟨key, val, false⟩ : Pr)]).length + ((([] : List KV).map prOf).drop (0)).length ≤ 1000000000) := by show _ ≤ _; simp
    have TK : Hid (RdC w (.slice none 0 0) ((([] : List KV).map prOf).take (place key []))) := ⟨_, _, rfl, Nat.le_refl _, by omega, .inl rfl⟩
    have TD : Hid (RdC w (.slice none 0 0) ((([] : List KV).map prOf).drop 0)) := ⟨_, _, rfl, Nat.le_refl _, by omega, .inl rfl⟩
    have HEQ : Hid ((ins key val []).map prOf = (([] ++ (([] : List KV).map prOf).take (place key [])) ++ [⟨key, val, false⟩]) ++ (([] : List KV).map prOf).drop 0) := HEQ
    clear hla hple hn h8 hh0 c2
    go_wp2_with (first
      | (at_builtin; refine wpList_app rfl _ _ rfl w2.heap.size (.slice (some ⟨w2.heap.size, 0, none⟩) 0 0) _ [] ((([] : List KV).map prOf).take (place key [])) rfl rfl (row_new w2 w2.heap.size (Nat.le_refl _)) (TK.out.nx (HN2.out.trans N3.out)) LEN1.out (by simp) ?_; intro v1 w3 hrow1 hg1; have n3 : Nx w2 w3 := Below.trans N3.out (GR.out _ _ _ _ (row_new w2 w2.heap.size (Nat.le_refl _)) hg1 (by simp)); have HR1 := Lib.hid hrow1; have HN3 := Lib.hid n3; clear hrow1 hg1 n3)
      | (at_builtin; refine wpList_app rfl _ _ rfl w2.heap.size v1 _ _ [⟨key, val, false⟩] rfl rfl (HR1.out.alloc _) (rdc_one w3 ⟨key, val, false⟩) LEN2.out (by have := HN3.out.size; simp; omega) ?_; intro v2 w4 hrow2 hg2; have n4 : Nx w2 w4 := Below.trans (HN3.out.alloc _) (GR.out _ _ _ _ (HR1.out.alloc _) hg2 (by have := HN3.out.size; simp; omega)); have c4 : w4.cell? ⟨w.heap.size, 0, none⟩ = some (.slice none 0 0) := (by rw [(HB2.out.nx n4).cell]; rfl); have HR2 := Lib.hid hrow2; have HN4 := Lib.hid n4; clear hrow2 hg2 n4)
      | (at_builtin; refine wpList_app rfl _ _ rfl w2.heap.size v2 _ _ ((([] : List KV).map prOf).drop (0)) rfl rfl HR2.out (TD.out.nx (HN2.out.trans HN4.out)) LEN3.out HN4.out.size ?_; intro v3 w5 hrow3 hg3; have n5 : Nx w2 w5 := Below.trans HN4.out (GR.out _ _ _ _ HR2.out hg3 HN4.out.size); obtain ⟨A9, n9, c9, rfl⟩ := own_slice' hrow3; obtain ⟨k1, k2, k3, k4, k5⟩ := NEW.out w5 _ _ hrow3 n5; have K3 := Lib.hid k3; have K4 := Lib.hid (k4 HEQ.out.symm); have K5 := Lib.hid k5; clear k3 k4 k5 hrow3 hg3 n5))
    refine bodyPost_ret (results_cell_row rfl _ _ (w.heap.size + 1) 36 #[.slice A9 n9 c9] (0, 0) _ rfl K3.out Try.underlying36 rfl (by kernel_rfl)) rfl ?_
    exact ⟨_, rfl, K4.out, K5.out⟩
  · simp only [Value.slice.injEq] at e
    obtain ⟨rfl, h8, h9⟩ := e
    clear h8 h9
    have hcap : xs.length ≤ c ∧ c ≤ 9223372036854775807 := by
      obtain ⟨A', c', e, h1, h2, _⟩ := HRW.out
      rw [List.length_map] at e h1
      simp only [Value.slice.injEq] at e
      obtain ⟨_, _, rfl⟩ := e
      exact ⟨h1, h2⟩
    have HRX : Hid (RdC w (.slice (some ⟨b, o, none⟩) (xs.map prOf).length c) (xs.map prOf)) := by have := HRW.out; rwa [show xs.length = (xs.map prOf).length from (List.length_map ..).symm] at this
    have TK := Lib.hid (RdC.take HRX.out (place key xs) (by rw [List.length_map]; omega))
    have q1 : place key xs ≤ xs.length := hple
    have q3 : xs.length ≤ c := hcap.1
    have g1 : (place key xs : Int) ≤ (c : Int) := by omega
    have g5 : (xs.length : Int) ≤ (c : Int) := by omega
    have e3 : (0 : Int) ≤ (place key xs : Int) := by omega
    by_cases hlt : place key xs < xs.length
    · rw [dif_pos hlt] at hla
      have AT : Hid (∀ V, Nx w V → V.cell? ⟨b, o + place key xs * 3, none⟩ = some (.string (S (xs[place key xs]'hlt).1)) ∧ True) := fun V hV => ⟨((HRW.out.nx hV).key _ hlt).1, trivial⟩
      have e1 : decide ((place key xs : Int) < (xs.length : Int)) = true := by simp; omega
      have e4 : (place key xs : Int) < (xs.length : Int) := by omega
      generalize xs[place key xs] = ev at *
      have hse := S_eq ev.1 key
      by_cases hk : ev.1 = key
      · rw [decide_eq_true hk] at hla hse
        rw [hla] at HEQ
        have HEQ : Hid ((ins key val xs).map prOf = (([] ++ (xs.map prOf).take (place key xs)) ++ [⟨key, val, false⟩]) ++ (xs.map prOf).drop (place key xs + 1)) := HEQ
        have DP := Lib.hid (fun A' c' => RdC.dropN HRX.out (place key xs + 1) (by rw [List.length_map]; omega) A' c')
        rw [List.length_map] at DP
        have LEN3 : Hid ((([] ++ (xs.map prOf).take (place key xs)) ++ [(⟨key, val, false⟩ : Pr)]).length + ((xs.map prOf).drop (place key xs + 1)).length ≤ 1000000000) := by show _ ≤ _; simp only [List.length_append, List.length_take, List.length_map, List.length_nil, List.length_singleton, List.length_drop]; omega
        have g2 : IntKind.i64.wrap ((place key xs : Int) + 1) = (place key xs : Int) + 1 := IntWalk.i64_in _ (by omega)
        have g3 : (0 : Int) ≤ (place key xs : Int) + 1 := by omega
        have g4 : (place key xs : Int) + 1 ≤ (xs.length : Int) := by omega
        have q2 : place key xs + 1 ≤ xs.length := by omega
        clear hla hk hple hcap hn hlt
        by_cases hc : c = place key xs + 1
        · have hX : xs.length = place key xs + 1 := by omega
          have hz : xs.length - (place key xs + 1) = 0 := by omega
          have DP3 := Lib.hid (DP.out ⟨b, o, none⟩ 0 (.inr ⟨hX, rfl⟩))
          rw [hz] at DP3
          clear hX hz DP
          generalize place key xs = pl at *
          subst hc
          have q5 : (pl : Int) ≤ (pl : Int) + 1 := by omega
          have q6 : pl ≤ pl + 1 := by omega
          go_wp2_with (first
            | (at_builtin; refine wpList_app rfl _ _ rfl w2.heap.size (.slice (some ⟨w2.heap.size, 0, none⟩) 0 0) _ [] ((xs.map prOf).take pl) rfl rfl (row_new w2 w2.heap.size (Nat.le_refl _)) (TK.out.nx (HN2.out.trans N3.out)) LEN1.out (by simp) ?_; intro v1 w3 hrow1 hg1; have n3 : Nx w2 w3 := Below.trans N3.out (GR.out _ _ _ _ (row_new w2 w2.heap.size (Nat.le_refl _)) hg1 (by simp)); have HR1 := Lib.hid hrow1; have HN3 := Lib.hid n3; clear hrow1 hg1 n3)
            | (at_builtin; refine wpList_app rfl _ _ rfl w2.heap.size v1 _ _ [⟨key, val, false⟩] rfl rfl (HR1.out.alloc _) (rdc_one w3 ⟨key, val, false⟩) LEN2.out (by have := HN3.out.size; simp; omega) ?_; intro v2 w4 hrow2 hg2; have n4 : Nx w2 w4 := Below.trans (HN3.out.alloc _) (GR.out _ _ _ _ (HR1.out.alloc _) hg2 (by have := HN3.out.size; simp; omega)); have c4 : w4.cell? ⟨w.heap.size, 0, none⟩ = some (.slice (some ⟨b, o, none⟩) xs.length (pl + 1)) := (by rw [(HB2.out.nx n4).cell]; rfl); have y0 := (AT.out w4 (HN2.out.trans n4)).1; have HR2 := Lib.hid hrow2; have HN4 := Lib.hid n4; clear hrow2 hg2 n4)
            | (at_builtin; refine wpList_app rfl _ _ rfl w2.heap.size v2 _ _ ((xs.map prOf).drop (pl + 1)) rfl rfl HR2.out (DP3.out.nx (HN2.out.trans HN4.out)) LEN3.out HN4.out.size ?_; intro v3 w5 hrow3 hg3; have n5 : Nx w2 w5 := Below.trans HN4.out (GR.out _ _ _ _ HR2.out hg3 HN4.out.size); obtain ⟨A9, n9, c9, rfl⟩ := own_slice' hrow3; obtain ⟨k1, k2, k3, k4, k5⟩ := NEW.out w5 _ _ hrow3 n5; have K3 := Lib.hid k3; have K4 := Lib.hid (k4 HEQ.out.symm); have K5 := Lib.hid k5; clear k3 k4 k5 hrow3 hg3 n5))
          refine bodyPost_ret (results_cell_row rfl _ _ (w.heap.size + 1) 36 #[.slice A9 n9 c9] (0, 0) _ rfl K3.out Try.underlying36 rfl (by kernel_rfl)) rfl ?_
          exact ⟨_, rfl, K4.out, K5.out⟩
        · generalize place key xs = pl at *
          go_wp2_with (first
            | (at_builtin; refine wpList_app rfl _ _ rfl w2.heap.size (.slice (some ⟨w2.heap.size, 0, none⟩) 0 0) _ [] ((xs.map prOf).take pl) rfl rfl (row_new w2 w2.heap.size (Nat.le_refl _)) (TK.out.nx (HN2.out.trans N3.out)) LEN1.out (by simp) ?_; intro v1 w3 hrow1 hg1; have n3 : Nx w2 w3 := Below.trans N3.out (GR.out _ _ _ _ (row_new w2 w2.heap.size (Nat.le_refl _)) hg1 (by simp)); have HR1 := Lib.hid hrow1; have HN3 := Lib.hid n3; clear hrow1 hg1 n3)
            | (at_builtin; refine wpList_app rfl _ _ rfl w2.heap.size v1 _ _ [⟨key, val, false⟩] rfl rfl (HR1.out.alloc _) (rdc_one w3 ⟨key, val, false⟩) LEN2.out (by have := HN3.out.size; simp; omega) ?_; intro v2 w4 hrow2 hg2; have n4 : Nx w2 w4 := Below.trans (HN3.out.alloc _) (GR.out _ _ _ _ (HR1.out.alloc _) hg2 (by have := HN3.out.size; simp; omega)); have c4 : w4.cell? ⟨w.heap.size, 0, none⟩ = some (.slice (some ⟨b, o, none⟩) xs.length c) := (by rw [(HB2.out.nx n4).cell]; rfl); have y0 := (AT.out w4 (HN2.out.trans n4)).1; have HR2 := Lib.hid hrow2; have HN4 := Lib.hid n4; clear hrow2 hg2 n4)
            | (at_builtin; refine wpList_app rfl _ _ rfl w2.heap.size v2 _ _ ((xs.map prOf).drop (pl + 1)) rfl rfl HR2.out ((DP.out ⟨b, o + (pl + 1) * 3, none⟩ (c - (pl + 1)) (.inl ⟨rfl, rfl⟩)).nx (HN2.out.trans HN4.out)) LEN3.out HN4.out.size ?_; intro v3 w5 hrow3 hg3; have n5 : Nx w2 w5 := Below.trans HN4.out (GR.out _ _ _ _ HR2.out hg3 HN4.out.size); obtain ⟨A9, n9, c9, rfl⟩ := own_slice' hrow3; obtain ⟨k1, k2, k3, k4, k5⟩ := NEW.out w5 _ _ hrow3 n5; have K3 := Lib.hid k3; have K4 := Lib.hid (k4 HEQ.out.symm); have K5 := Lib.hid k5; clear k3 k4 k5 hrow3 hg3 n5))
          refine bodyPost_ret (results_cell_row rfl _ _ (w.heap.size + 1) 36 #[.slice A9 n9 c9] (0, 0) _ rfl K3.out Try.underlying36 rfl (by kernel_rfl)) rfl ?_
          exact ⟨_, rfl, K4.out, K5.out⟩
      · rw [decide_eq_false hk] at hla hse
        rw [hla] at HEQ
        have HEQ : Hid ((ins key val xs).map prOf = (([] ++ (xs.map prOf).take (place key xs)) ++ [⟨key, val, false⟩]) ++ (xs.map prOf).drop (place key xs)) := HEQ
        have DP := Lib.hid (fun A' c' => RdC.dropN HRX.out (place key xs) (by rw [List.length_map]; omega) A' c')
        rw [List.length_map] at DP
        have LEN3 : Hid ((([] ++ (xs.map prOf).take (place key xs)) ++ [(⟨key, val, false⟩ : Pr)]).length + ((xs.map prOf).drop (place key xs)).length ≤ 1000000000) := by show _ ≤ _; simp only [List.length_append, List.length_take, List.length_map, List.length_nil, List.length_singleton, List.length_drop]; omega
        have g4 : (place key xs : Int) ≤ (xs.length : Int) := by omega
        have hc : ¬ c = place key xs := by omega
        clear hla hk hple hcap hn hlt
        generalize place key xs = pl at *
        go_wp2_with (first
          | (at_builtin; refine wpList_app rfl _ _ rfl w2.heap.size (.slice (some ⟨w2.heap.size, 0, none⟩) 0 0) _ [] ((xs.map prOf).take pl) rfl rfl (row_new w2 w2.heap.size (Nat.le_refl _)) (TK.out.nx (HN2.out.trans N3.out)) LEN1.out (by simp) ?_; intro v1 w3 hrow1 hg1; have n3 : Nx w2 w3 := Below.trans N3.out (GR.out _ _ _ _ (row_new w2 w2.heap.size (Nat.le_refl _)) hg1 (by simp)); have HR1 := Lib.hid hrow1; have HN3 := Lib.hid n3; clear hrow1 hg1 n3)
          | (at_builtin; refine wpList_app rfl _ _ rfl w2.heap.size v1 _ _ [⟨key, val, false⟩] rfl rfl (HR1.out.alloc _) (rdc_one w3 ⟨key, val, false⟩) LEN2.out (by have := HN3.out.size; simp; omega) ?_; intro v2 w4 hrow2 hg2; have n4 : Nx w2 w4 := Below.trans (HN3.out.alloc _) (GR.out _ _ _ _ (HR1.out.alloc _) hg2 (by have := HN3.out.size; simp; omega)); have c4 : w4.cell? ⟨w.heap.size, 0, none⟩ = some (.slice (some ⟨b, o, none⟩) xs.length c) := (by rw [(HB2.out.nx n4).cell]; rfl); have y0 := (AT.out w4 (HN2.out.trans n4)).1; have HR2 := Lib.hid hrow2; have HN4 := Lib.hid n4; clear hrow2 hg2 n4)
          | (at_builtin; refine wpList_app rfl _ _ rfl w2.heap.size v2 _ _ ((xs.map prOf).drop (pl)) rfl rfl HR2.out ((DP.out ⟨b, o + pl * 3, none⟩ (c - pl) (.inl ⟨rfl, rfl⟩)).nx (HN2.out.trans HN4.out)) LEN3.out HN4.out.size ?_; intro v3 w5 hrow3 hg3; have n5 : Nx w2 w5 := Below.trans HN4.out (GR.out _ _ _ _ HR2.out hg3 HN4.out.size); obtain ⟨A9, n9, c9, rfl⟩ := own_slice' hrow3; obtain ⟨k1, k2, k3, k4, k5⟩ := NEW.out w5 _ _ hrow3 n5; have K3 := Lib.hid k3; have K4 := Lib.hid (k4 HEQ.out.symm); have K5 := Lib.hid k5; clear k3 k4 k5 hrow3 hg3 n5))
        refine bodyPost_ret (results_cell_row rfl _ _ (w.heap.size + 1) 36 #[.slice A9 n9 c9] (0, 0) _ rfl K3.out Try.underlying36 rfl (by kernel_rfl)) rfl ?_
        exact ⟨_, rfl, K4.out, K5.out⟩
    · rw [dif_neg hlt] at hla
      rw [hla] at HEQ
      have HEQ : Hid ((ins key val xs).map prOf = (([] ++ (xs.map prOf).take (place key xs)) ++ [⟨key, val, false⟩]) ++ (xs.map prOf).drop (place key xs)) := HEQ
      have DP := Lib.hid (fun A' c' => RdC.dropN HRX.out (place key xs) (by rw [List.length_map]; omega) A' c')
      rw [List.length_map] at DP
      have LEN3 : Hid ((([] ++ (xs.map prOf).take (place key xs)) ++ [(⟨key, val, false⟩ : Pr)]).length + ((xs.map prOf).drop (place key xs)).length ≤ 1000000000) := by show _ ≤ _; simp only [List.length_append, List.length_take, List.length_map, List.length_nil, List.length_singleton, List.length_drop]; omega
      have hX : place key xs = xs.length := by omega
      have e1 : decide ((place key xs : Int) < (xs.length : Int)) = false := by simp; omega
      have e2 : decide (place key xs < xs.length) = false := by simp; omega
      have g4 : (place key xs : Int) ≤ (xs.length : Int) := by omega
      have hz : xs.length - place key xs = 0 := by omega
      by_cases hc : c = place key xs
      · have DP3 := Lib.hid (DP.out ⟨b, o, none⟩ 0 (.inr ⟨hX.symm, rfl⟩))
        have DP4 := DP3
        rw [hz] at DP3
        clear hX hz DP hla hple hcap hn hlt
        generalize place key xs = pl at *
        have hc2 := hc.symm
        clear hc
        subst hc2
        go_wp2_with (first
          | (at_builtin; refine wpList_app rfl _ _ rfl w2.heap.size (.slice (some ⟨w2.heap.size, 0, none⟩) 0 0) _ [] ((xs.map prOf).take pl) rfl rfl (row_new w2 w2.heap.size (Nat.le_refl _)) (TK.out.nx (HN2.out.trans N3.out)) LEN1.out (by simp) ?_; intro v1 w3 hrow1 hg1; have n3 : Nx w2 w3 := Below.trans N3.out (GR.out _ _ _ _ (row_new w2 w2.heap.size (Nat.le_refl _)) hg1 (by simp)); have HR1 := Lib.hid hrow1; have HN3 := Lib.hid n3; clear hrow1 hg1 n3)
          | (at_builtin; refine wpList_app rfl _ _ rfl w2.heap.size v1 _ _ [⟨key, val, false⟩] rfl rfl (HR1.out.alloc _) (rdc_one w3 ⟨key, val, false⟩) LEN2.out (by have := HN3.out.size; simp; omega) ?_; intro v2 w4 hrow2 hg2; have n4 : Nx w2 w4 := Below.trans (HN3.out.alloc _) (GR.out _ _ _ _ (HR1.out.alloc _) hg2 (by have := HN3.out.size; simp; omega)); have c4 : w4.cell? ⟨w.heap.size, 0, none⟩ = some (.slice (some ⟨b, o, none⟩) xs.length pl) := (by rw [(HB2.out.nx n4).cell]; rfl); have HR2 := Lib.hid hrow2; have HN4 := Lib.hid n4; clear hrow2 hg2 n4)
          | (at_builtin; refine wpList_app rfl _ _ rfl w2.heap.size v2 _ _ ((xs.map prOf).drop (pl)) rfl rfl HR2.out (DP3.out.nx (HN2.out.trans HN4.out)) LEN3.out HN4.out.size ?_; intro v3 w5 hrow3 hg3; have n5 : Nx w2 w5 := Below.trans HN4.out (GR.out _ _ _ _ HR2.out hg3 HN4.out.size); obtain ⟨A9, n9, c9, rfl⟩ := own_slice' hrow3; obtain ⟨k1, k2, k3, k4, k5⟩ := NEW.out w5 _ _ hrow3 n5; have K3 := Lib.hid k3; have K4 := Lib.hid (k4 HEQ.out.symm); have K5 := Lib.hid k5; clear k3 k4 k5 hrow3 hg3 n5)
          | (at_builtin; refine wpList_app rfl _ _ rfl w2.heap.size v2 _ _ ((xs.map prOf).drop (pl)) rfl rfl HR2.out (DP4.out.nx (HN2.out.trans HN4.out)) LEN3.out HN4.out.size ?_; intro v3 w5 hrow3 hg3; have n5 : Nx w2 w5 := Below.trans HN4.out (GR.out _ _ _ _ HR2.out hg3 HN4.out.size); obtain ⟨A9, n9, c9, rfl⟩ := own_slice' hrow3; obtain ⟨k1, k2, k3, k4, k5⟩ := NEW.out w5 _ _ hrow3 n5; have K3 := Lib.hid k3; have K4 := Lib.hid (k4 HEQ.out.symm); have K5 := Lib.hid k5; clear k3 k4 k5 hrow3 hg3 n5))
        refine bodyPost_ret (results_cell_row rfl _ _ (w.heap.size + 1) 36 #[.slice A9 n9 c9] (0, 0) _ rfl K3.out Try.underlying36 rfl (by kernel_rfl)) rfl ?_
        exact ⟨_, rfl, K4.out, K5.out⟩
      · clear hX hz hla hple hcap hn hlt
        generalize place key xs = pl at *
        go_wp2_with (first
          | (at_builtin; refine wpList_app rfl _ _ rfl w2.heap.size (.slice (some ⟨w2.heap.size, 0, none⟩) 0 0) _ [] ((xs.map prOf).take pl) rfl rfl (row_new w2 w2.heap.size (Nat.le_refl _)) (TK.out.nx (HN2.out.trans N3.out)) LEN1.out (by simp) ?_; intro v1 w3 hrow1 hg1; have n3 : Nx w2 w3 := Below.trans N3.out (GR.out _ _ _ _ (row_new w2 w2.heap.size (Nat.le_refl _)) hg1 (by simp)); have HR1 := Lib.hid hrow1; have HN3 := Lib.hid n3; clear hrow1 hg1 n3)
          | (at_builtin; refine wpList_app rfl _ _ rfl w2.heap.size v1 _ _ [⟨key, val, false⟩] rfl rfl (HR1.out.alloc _) (rdc_one w3 ⟨key, val, false⟩) LEN2.out (by have := HN3.out.size; simp; omega) ?_; intro v2 w4 hrow2 hg2; have n4 : Nx w2 w4 := Below.trans (HN3.out.alloc _) (GR.out _ _ _ _ (HR1.out.alloc _) hg2 (by have := HN3.out.size; simp; omega)); have c4 : w4.cell? ⟨w.heap.size, 0, none⟩ = some (.slice (some ⟨b, o, none⟩) xs.length c) := (by rw [(HB2.out.nx n4).cell]; rfl); have HR2 := Lib.hid hrow2; have HN4 := Lib.hid n4; clear hrow2 hg2 n4)
          | (at_builtin; refine wpList_app rfl _ _ rfl w2.heap.size v2 _ _ ((xs.map prOf).drop (pl)) rfl rfl HR2.out ((DP.out ⟨b, o + pl * 3, none⟩ (c - pl) (.inl ⟨rfl, rfl⟩)).nx (HN2.out.trans HN4.out)) LEN3.out HN4.out.size ?_; intro v3 w5 hrow3 hg3; have n5 : Nx w2 w5 := Below.trans HN4.out (GR.out _ _ _ _ HR2.out hg3 HN4.out.size); obtain ⟨A9, n9, c9, rfl⟩ := own_slice' hrow3; obtain ⟨k1, k2, k3, k4, k5⟩ := NEW.out w5 _ _ hrow3 n5; have K3 := Lib.hid k3; have K4 := Lib.hid (k4 HEQ.out.symm); have K5 := Lib.hid k5; clear k3 k4 k5 hrow3 hg3 n5))
        refine bodyPost_ret (results_cell_row rfl _ _ (w.heap.size + 1) 36 #[.slice A9 n9 c9] (0, 0) _ rfl K3.out Try.underlying36 rfl (by kernel_rfl)) rfl ?_
        exact ⟨_, rfl, K4.out, K5.out⟩
end Go.Proofs.Ytekcphpeaoaaaaa

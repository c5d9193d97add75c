/- Package table, the reference: Changes. Made by wip/tools/gen_rch.py. -/
import Derived.Test.YtekcphpeaoaaaaaTbRc
namespace Go.Proofs.Ytekcphpeaoaaaaa
open Go.RowKit Go.Shelf
set_option linter.unusedVariables false

attribute [local go_sem] Oper.semAt_some

/-- Between two rounds. -/
def ChI (W : World) (xs ys : List KV) (n i k : Nat) (v : Value) (wr : World) : Prop :=
  i ≤ xs.length ∧ k ≤ ys.length ∧ (xs.length - i) + (ys.length - k) ≤ n ∧ ∃ out, Row wr W.heap.size v out ∧ out ++ chg (xs.drop i) (ys.drop k) = chg xs ys ∧ Nx W wr

set_option maxRecDepth 100000 in
set_option maxHeartbeats 8000000 in
theorem rchanges_any (w : World) (T1 T2 : Value) (xs ys : List KV) (h1 : Rt w T1 xs) (h2 : Rt w T2 ys) (hn1 : xs.length ≤ 100000000) (hn2 : ys.length ≤ 100000000) :
    Calls Try.prog 28 #[T1, T2] w (Ret fun r w' => Row w' w.heap.size r (chg xs ys) ∧ Nx w w') := by
  obtain ⟨s, rfl, hr1, _⟩ := h1
  obtain ⟨A1, c1, rfl⟩ : ∃ A c, s = .slice A xs.length c := by
    obtain ⟨A, c, e, _⟩ := hr1
    rw [List.length_map] at e
    exact ⟨A, c, e⟩
  obtain ⟨s, rfl, hr2, _⟩ := h2
  obtain ⟨A2, c2, rfl⟩ : ∃ A c, s = .slice A ys.length c := by
    obtain ⟨A, c, e, _⟩ := hr2
    rw [List.length_map] at e
    exact ⟨A, c, e⟩
  obtain ⟨W, hW⟩ : ∃ W, (w.alloc (.cells #[.slice A1 xs.length c1] 36)).alloc (.cells #[.slice A2 ys.length c2] 36) = W := ⟨_, rfl⟩
  have n1 : Nx w W := by rw [← hW]; exact ((Nx.refl w).alloc _).alloc _
  have hb2 : BlkIs W w.heap.size 36 #[.slice A1 xs.length c1] := by rw [← hW]; exact (box_blk w _ _).nx ((Nx.refl _).alloc _)
  have hb3 : BlkIs W (w.heap.size + 1) 36 #[.slice A2 ys.length c2] := by
    rw [← hW]
    have := box_blk (w.alloc (.cells #[.slice A1 xs.length c1] 36)) (.slice A2 ys.length c2) 36
    rwa [World.size_alloc] at this
  have N1 := Lib.hid n1
  have BB : Hid (BlkIs W w.heap.size 36 #[.slice A1 xs.length c1] ∧ BlkIs W (w.heap.size + 1) 36 #[.slice A2 ys.length c2]) := ⟨hb2, hb3⟩
  have R1 := Lib.hid (hr1.nx n1)
  have R2 := Lib.hid (hr2.nx n1)
  have HN : Hid (xs.length ≤ 100000000 ∧ ys.length ≤ 100000000) := ⟨hn1, hn2⟩
  have START : Hid (ChI W xs ys (xs.length + ys.length) 0 0 (.slice none 0 0) W) := ⟨Nat.zero_le _, Nat.zero_le _, by omega, [], World.ownsRow_nil _ _ _ _, rfl, Nx.refl W⟩
  clear hr1 hr2 n1 hb2 hb3 hn1 hn2
  go_enter Try.func28, Try.ntmps28
  go_wp2
  go_loopg [5, 6, 7] (xs.length + ys.length) (fun n p5 p6 p7 wr => ∃ (i k : Nat), p6 = .int .i64 (i : Int) ∧ p7 = .int .i64 (k : Int) ∧ Hid (ChI W xs ys n i k p5 wr))
  case atStart => exact ⟨0, 0, rfl, rfl, by first | exact START.out | (rw [hW]; exact START.out)⟩
  case round v =>
    obtain ⟨i, k, rfl, rfl, hh⟩ := hrel
    clear START hW
    obtain ⟨hi, hk, hm, out, hrow, hch, hnx⟩ := hh.out
    obtain ⟨Av, cv, rfl⟩ := own_slice hrow
    have e2 : wr.cell? ⟨w.heap.size, 0, none⟩ = some (.slice A1 xs.length c1) := BB.out.1.at0 hnx
    have e3 : wr.cell? ⟨w.heap.size + 1, 0, none⟩ = some (.slice A2 ys.length c2) := BB.out.2.at0 hnx
    have hol : out.length ≤ 200000000 := by
      have h1 := congrArg List.length hch
      rw [List.length_append] at h1
      have h2 := chg_len xs ys
      have := HN.out
      omega
    have BX : Hid (∀ V, Nx wr V → V.cell? ⟨w.heap.size, 0, none⟩ = some (.slice A1 xs.length c1) ∧ V.cell? ⟨w.heap.size + 1, 0, none⟩ = some (.slice A2 ys.length c2)) := fun V hV => ⟨BB.out.1.at0 (hnx.trans hV), BB.out.2.at0 (hnx.trans hV)⟩
    have hwi : IntKind.i64.wrap ((i : Int) + 1) = (i : Int) + 1 := IntWalk.i64_in _ (by have := HN.out; omega)
    have hwk : IntKind.i64.wrap ((k : Int) + 1) = (k : Int) + 1 := IntWalk.i64_in _ (by have := HN.out; omega)
    have z1 : (0 : Int) ≤ (i : Int) := by omega
    have z2 : (0 : Int) ≤ (k : Int) := by omega
    have ROW := Lib.hid hrow
    have HNX := Lib.hid hnx
    have HOL := Lib.hid hol
    -- an append of a pair
    have STEP : Hid (∀ (i' k' : Nat) (p : Pr), i' ≤ xs.length → k' ≤ ys.length → (xs.length - i') + (ys.length - k') < (xs.length - i) + (ys.length - k) → chg (xs.drop i) (ys.drop k) = p :: chg (xs.drop i') (ys.drop k') → ∀ (V w3 : World) (o : Obj) (v1 : Value), Nx wr V → Row w3 W.heap.size v1 (out ++ [p]) → (V.alloc o).grownBy w3 (Value.slice Av out.length cv).ownBlock → gk - 1 < gk ∧ ChI W xs ys (gk - 1) i' k' v1 w3) := fun i' k' p a1 a2 a3 a4 V w3 o v1 a5 a6 a7 => by
      refine ⟨by omega, a1, a2, by omega, out ++ [p], a6, by rw [List.append_assoc, ← hch, a4]; rfl, ?_⟩
      exact Nx.grown ((hnx.trans a5).alloc o) ((ROW.out.nx a5).alloc o) a7
    have STAY : Hid (∀ (i' k' : Nat), i' ≤ xs.length → k' ≤ ys.length → (xs.length - i') + (ys.length - k') < (xs.length - i) + (ys.length - k) → chg (xs.drop i) (ys.drop k) = chg (xs.drop i') (ys.drop k') → ∀ V, Nx wr V → gk - 1 < gk ∧ ChI W xs ys (gk - 1) i' k' (.slice Av out.length cv) V) := fun i' k' a1 a2 a3 a4 V a5 =>
      ⟨by omega, a1, a2, by omega, out, ROW.out.nx a5, by rw [← hch, a4], hnx.trans a5⟩
    clear hrow hnx hol hh
    by_cases hil : i < xs.length
    · have f1 : decide ((i : Int) < (xs.length : Int)) = true := by simp; omega
      have f2 : decide (i < xs.length) = true := by simp; omega
      have f3 : (i : Int) < (xs.length : Int) := by omega
      have f4 : ((i : Int) == (xs.length : Int)) = false := by rw [beq_eq_false_iff_ne]; omega
      obtain ⟨bx, ox, rfl⟩ := R1.out.addr (by rw [List.length_map]; omega)
      have X := (R1.out.nx HNX.out).key i hil
      have hdx := List.drop_eq_getElem_cons hil
      obtain ⟨x, hx⟩ : ∃ e, xs[i] = e := ⟨_, rfl⟩
      rw [hx] at X hdx
      obtain ⟨x0, x1, x2⟩ := X
      have KX : Hid (∀ V, Nx wr V → V.cell? ⟨bx, ox + i * 3, none⟩ = some (.string (S x.1)) ∧ V.cell? ⟨bx, ox + i * 3 + 1, none⟩ = some (.string (S x.2)) ∧ V.cell? ⟨bx, ox + i * 3 + 2, none⟩ = some (.bool false)) := fun V hV => ⟨cell_nx x0 hV, cell_nx x1 hV, cell_nx x2 hV⟩
      by_cases hkl : k < ys.length
      · have g1 : decide ((k : Int) < (ys.length : Int)) = true := by simp; omega
        have g2 : decide (k < ys.length) = true := by simp; omega
        have g3 : (k : Int) < (ys.length : Int) := by omega
        have g4 : ((k : Int) == (ys.length : Int)) = false := by rw [beq_eq_false_iff_ne]; omega
        obtain ⟨by_, oy, rfl⟩ := R2.out.addr (by rw [List.length_map]; omega)
        have Y := (R2.out.nx HNX.out).key k hkl
        have hdy := List.drop_eq_getElem_cons hkl
        obtain ⟨y, hy⟩ : ∃ e, ys[k] = e := ⟨_, rfl⟩
        rw [hy] at Y hdy
        obtain ⟨y0, y1, y2⟩ := Y
        have KY : Hid (∀ V, Nx wr V → V.cell? ⟨by_, oy + k * 3, none⟩ = some (.string (S y.1)) ∧ V.cell? ⟨by_, oy + k * 3 + 1, none⟩ = some (.string (S y.2)) ∧ V.cell? ⟨by_, oy + k * 3 + 2, none⟩ = some (.bool false)) := fun V hV => ⟨cell_nx y0 hV, cell_nx y1 hV, cell_nx y2 hV⟩
        rcases tri x.1 y.1 with hxy | hxy | hxy
        · have hb1 : Op.bytesLess (S x.1).toList (S y.1).toList = true := by rw [S_lt]; exact hxy
          have NXT := Lib.hid (STEP.out (i + 1) k (goneOf x) (by omega) hk (by omega) (by rw [hdx, hdy]; exact chg_gone2 _ _ hxy))
          clear STEP STAY hch hm hdx hdy hx hy hxy
          go_wp2_with fail
          go_quiet (fail)
          have hV0 : Nx wr (wr.drewN nq) := (Nx.refl wr).drewN _
          generalize wr.drewN nq = V0 at hV0 ⊢
          obtain ⟨e2V0, e3V0⟩ := BX.out V0 hV0
          obtain ⟨x0V0, x1V0, x2V0⟩ := KX.out V0 hV0
          obtain ⟨y0V0, y1V0, y2V0⟩ := KY.out V0 hV0
          have RV := Lib.hid (ROW.out.nx hV0)
          have HV := Lib.hid hV0
          have LN : Hid (out.length + [goneOf x].length ≤ 1000000000) := by show _ ≤ _; simp only [List.length_singleton]; have := HOL.out; omega
          have HS : Hid (W.heap.size ≤ V0.heap.size) := (HNX.out.trans hV0).size
          go_wp2_with (at_builtin; refine wpList_app rfl _ _ rfl W.heap.size (.slice Av out.length cv) _ _ [goneOf x] rfl rfl (RV.out.alloc _) (rdc_one V0 (goneOf x)) LN.out (by have := HS.out; simp; omega) ?_; intro v1 w3 hrow1 hg1; obtain ⟨q1, q2⟩ := NXT.out V0 w3 _ v1 HV.out hrow1 hg1; have Q2 := Lib.hid q2; clear q2 hrow1 hg1)
          go_roundg (gk - 1)
          case measure => exact q1
          case rel => exact ⟨i + 1, k, by push_cast; rfl, by push_cast; rfl, Q2⟩
        · have hb1 : Op.bytesLess (S x.1).toList (S y.1).toList = false := by rw [S_lt, hxy, lt_irrefl]
          have hb2 : Op.bytesLess (S y.1).toList (S x.1).toList = false := by rw [S_lt, hxy, lt_irrefl]
          have hbe : ((S x.1).toList == (S y.1).toList) = true := by rw [S_eq]; simp [hxy]
          have hse := S_eq x.2 y.2
          by_cases hv : y.2 = x.2
          · have hse2 : ((S x.2).toList == (S y.2).toList) = true := by rw [hse]; simp [hv]
            have NXT := Lib.hid (STAY.out (i + 1) (k + 1) (by omega) (by omega) (by omega) (by rw [hdx, hdy, chg_same _ _ hxy.symm, if_pos hv]; rfl))
            clear STEP STAY hch hm hdx hdy hx hy hse hv hxy
            go_wp2_with fail
            go_quiet (fail)
            have hV0 : Nx wr (wr.drewN nq) := (Nx.refl wr).drewN _
            generalize wr.drewN nq = V0 at hV0 ⊢
            obtain ⟨e2V0, e3V0⟩ := BX.out V0 hV0
            obtain ⟨x0V0, x1V0, x2V0⟩ := KX.out V0 hV0
            obtain ⟨y0V0, y1V0, y2V0⟩ := KY.out V0 hV0
            go_wp2_with fail
            go_quiet (fail)
            have hV1 : Nx wr (V0.drewN nq) := hV0.drewN _
            generalize V0.drewN nq = V1 at hV1 ⊢
            obtain ⟨e2V1, e3V1⟩ := BX.out V1 hV1
            obtain ⟨x0V1, x1V1, x2V1⟩ := KX.out V1 hV1
            obtain ⟨y0V1, y1V1, y2V1⟩ := KY.out V1 hV1
            go_wp2_with fail
            go_quiet (fail)
            have hV2 : Nx wr (V1.drewN nq) := hV1.drewN _
            generalize V1.drewN nq = V2 at hV2 ⊢
            obtain ⟨e2V2, e3V2⟩ := BX.out V2 hV2
            obtain ⟨x0V2, x1V2, x2V2⟩ := KX.out V2 hV2
            obtain ⟨y0V2, y1V2, y2V2⟩ := KY.out V2 hV2
            obtain ⟨q1, q2⟩ := NXT.out V2 hV2
            have Q2 := Lib.hid q2
            clear q2
            go_wp2
            go_roundg (gk - 1)
            case measure => exact q1
            case rel => exact ⟨i + 1, k + 1, by push_cast; rfl, by push_cast; rfl, Q2⟩
          · have hse2 : ((S x.2).toList == (S y.2).toList) = false := by rw [hse]; simp; exact fun e => hv e.symm
            have NXT := Lib.hid (STEP.out (i + 1) (k + 1) (prOf y) (by omega) (by omega) (by omega) (by rw [hdx, hdy, chg_same _ _ hxy.symm, if_neg hv]; rfl))
            clear STEP STAY hch hm hdx hdy hx hy hse hv hxy
            go_wp2_with fail
            go_quiet (fail)
            have hV0 : Nx wr (wr.drewN nq) := (Nx.refl wr).drewN _
            generalize wr.drewN nq = V0 at hV0 ⊢
            obtain ⟨e2V0, e3V0⟩ := BX.out V0 hV0
            obtain ⟨x0V0, x1V0, x2V0⟩ := KX.out V0 hV0
            obtain ⟨y0V0, y1V0, y2V0⟩ := KY.out V0 hV0
            go_wp2_with fail
            go_quiet (fail)
            have hV1 : Nx wr (V0.drewN nq) := hV0.drewN _
            generalize V0.drewN nq = V1 at hV1 ⊢
            obtain ⟨e2V1, e3V1⟩ := BX.out V1 hV1
            obtain ⟨x0V1, x1V1, x2V1⟩ := KX.out V1 hV1
            obtain ⟨y0V1, y1V1, y2V1⟩ := KY.out V1 hV1
            go_wp2_with fail
            go_quiet (fail)
            have hV2 : Nx wr (V1.drewN nq) := hV1.drewN _
            generalize V1.drewN nq = V2 at hV2 ⊢
            obtain ⟨e2V2, e3V2⟩ := BX.out V2 hV2
            obtain ⟨x0V2, x1V2, x2V2⟩ := KX.out V2 hV2
            obtain ⟨y0V2, y1V2, y2V2⟩ := KY.out V2 hV2
            have RV := Lib.hid (ROW.out.nx hV2)
            have HV := Lib.hid hV2
            have LN : Hid (out.length + [prOf y].length ≤ 1000000000) := by show _ ≤ _; simp only [List.length_singleton]; have := HOL.out; omega
            have HS : Hid (W.heap.size ≤ V2.heap.size) := (HNX.out.trans hV2).size
            go_wp2_with (at_builtin; refine wpList_app rfl _ _ rfl W.heap.size (.slice Av out.length cv) _ _ [prOf y] rfl rfl (RV.out.alloc _) (rdc_one V2 (prOf y)) LN.out (by have := HS.out; simp; omega) ?_; intro v1 w3 hrow1 hg1; obtain ⟨q1, q2⟩ := NXT.out V2 w3 _ v1 HV.out hrow1 hg1; have Q2 := Lib.hid q2; clear q2 hrow1 hg1)
            go_roundg (gk - 1)
            case measure => exact q1
            case rel => exact ⟨i + 1, k + 1, by push_cast; rfl, by push_cast; rfl, Q2⟩
        · have hb1 : Op.bytesLess (S x.1).toList (S y.1).toList = false := by rw [S_lt]; exact lt_asymm hxy
          have hb2 : Op.bytesLess (S y.1).toList (S x.1).toList = true := by rw [S_lt]; exact hxy
          have hbe : ((S x.1).toList == (S y.1).toList) = false := by rw [S_eq]; simpa using (lt_ne hxy).symm
          have NXT := Lib.hid (STEP.out i (k + 1) (prOf y) hi (by omega) (by omega) (by rw [hdx, hdy]; exact chg_put2 _ _ hxy))
          clear STEP STAY hch hm hdx hdy hx hy hxy
          go_wp2_with fail
          go_quiet (fail)
          have hV0 : Nx wr (wr.drewN nq) := (Nx.refl wr).drewN _
          generalize wr.drewN nq = V0 at hV0 ⊢
          obtain ⟨e2V0, e3V0⟩ := BX.out V0 hV0
          obtain ⟨x0V0, x1V0, x2V0⟩ := KX.out V0 hV0
          obtain ⟨y0V0, y1V0, y2V0⟩ := KY.out V0 hV0
          go_wp2_with fail
          go_quiet (fail)
          have hV1 : Nx wr (V0.drewN nq) := hV0.drewN _
          generalize V0.drewN nq = V1 at hV1 ⊢
          obtain ⟨e2V1, e3V1⟩ := BX.out V1 hV1
          obtain ⟨x0V1, x1V1, x2V1⟩ := KX.out V1 hV1
          obtain ⟨y0V1, y1V1, y2V1⟩ := KY.out V1 hV1
          have RV := Lib.hid (ROW.out.nx hV1)
          have HV := Lib.hid hV1
          have LN : Hid (out.length + [prOf y].length ≤ 1000000000) := by show _ ≤ _; simp only [List.length_singleton]; have := HOL.out; omega
          have HS : Hid (W.heap.size ≤ V1.heap.size) := (HNX.out.trans hV1).size
          go_wp2_with (at_builtin; refine wpList_app rfl _ _ rfl W.heap.size (.slice Av out.length cv) _ _ [prOf y] rfl rfl (RV.out.alloc _) (rdc_one V1 (prOf y)) LN.out (by have := HS.out; simp; omega) ?_; intro v1 w3 hrow1 hg1; obtain ⟨q1, q2⟩ := NXT.out V1 w3 _ v1 HV.out hrow1 hg1; have Q2 := Lib.hid q2; clear q2 hrow1 hg1)
          go_roundg (gk - 1)
          case measure => exact q1
          case rel => exact ⟨i, k + 1, by push_cast; rfl, by push_cast; rfl, Q2⟩
      · have g1 : decide ((k : Int) < (ys.length : Int)) = false := by simp; omega
        have g2 : decide (k < ys.length) = false := by simp; omega
        have g4 : ((k : Int) == (ys.length : Int)) = true := by simp; omega
        have NXT := Lib.hid (STEP.out (i + 1) k (goneOf x) (by omega) hk (by omega) (by rw [hdx, show ys.drop k = [] from List.drop_eq_nil_of_le (by omega)]; exact chg_gone _ _))
        clear STEP STAY hch hm hdx hx
        go_wp2_with fail
        go_quiet (fail)
        have hV0 : Nx wr (wr.drewN nq) := (Nx.refl wr).drewN _
        generalize wr.drewN nq = V0 at hV0 ⊢
        obtain ⟨e2V0, e3V0⟩ := BX.out V0 hV0
        obtain ⟨x0V0, x1V0, x2V0⟩ := KX.out V0 hV0
        have RV := Lib.hid (ROW.out.nx hV0)
        have HV := Lib.hid hV0
        have LN : Hid (out.length + [goneOf x].length ≤ 1000000000) := by show _ ≤ _; simp only [List.length_singleton]; have := HOL.out; omega
        have HS : Hid (W.heap.size ≤ V0.heap.size) := (HNX.out.trans hV0).size
        go_wp2_with (at_builtin; refine wpList_app rfl _ _ rfl W.heap.size (.slice Av out.length cv) _ _ [goneOf x] rfl rfl (RV.out.alloc _) (rdc_one V0 (goneOf x)) LN.out (by have := HS.out; simp; omega) ?_; intro v1 w3 hrow1 hg1; obtain ⟨q1, q2⟩ := NXT.out V0 w3 _ v1 HV.out hrow1 hg1; have Q2 := Lib.hid q2; clear q2 hrow1 hg1)
        go_roundg (gk - 1)
        case measure => exact q1
        case rel => exact ⟨i + 1, k, by push_cast; rfl, by push_cast; rfl, Q2⟩
    · have f1 : decide ((i : Int) < (xs.length : Int)) = false := by simp; omega
      have f2 : decide (i < xs.length) = false := by simp; omega
      have f4 : ((i : Int) == (xs.length : Int)) = true := by simp; omega
      by_cases hkl : k < ys.length
      · have g1 : decide ((k : Int) < (ys.length : Int)) = true := by simp; omega
        have g2 : decide (k < ys.length) = true := by simp; omega
        have g3 : (k : Int) < (ys.length : Int) := by omega
        have g4 : ((k : Int) == (ys.length : Int)) = false := by rw [beq_eq_false_iff_ne]; omega
        obtain ⟨by_, oy, rfl⟩ := R2.out.addr (by rw [List.length_map]; omega)
        have Y := (R2.out.nx HNX.out).key k hkl
        have hdy := List.drop_eq_getElem_cons hkl
        obtain ⟨y, hy⟩ : ∃ e, ys[k] = e := ⟨_, rfl⟩
        rw [hy] at Y hdy
        obtain ⟨y0, y1, y2⟩ := Y
        have KY : Hid (∀ V, Nx wr V → V.cell? ⟨by_, oy + k * 3, none⟩ = some (.string (S y.1)) ∧ V.cell? ⟨by_, oy + k * 3 + 1, none⟩ = some (.string (S y.2)) ∧ V.cell? ⟨by_, oy + k * 3 + 2, none⟩ = some (.bool false)) := fun V hV => ⟨cell_nx y0 hV, cell_nx y1 hV, cell_nx y2 hV⟩
        have NXT := Lib.hid (STEP.out i (k + 1) (prOf y) hi (by omega) (by omega) (by rw [show xs.drop i = [] from List.drop_eq_nil_of_le (by omega), hdy]; exact chg_put _ _))
        clear STEP STAY hch hm hdy hy
        go_wp2_with fail
        go_quiet (fail)
        have hV0 : Nx wr (wr.drewN nq) := (Nx.refl wr).drewN _
        generalize wr.drewN nq = V0 at hV0 ⊢
        obtain ⟨e2V0, e3V0⟩ := BX.out V0 hV0
        obtain ⟨y0V0, y1V0, y2V0⟩ := KY.out V0 hV0
        go_wp2_with fail
        go_quiet (fail)
        have hV1 : Nx wr (V0.drewN nq) := hV0.drewN _
        generalize V0.drewN nq = V1 at hV1 ⊢
        obtain ⟨e2V1, e3V1⟩ := BX.out V1 hV1
        obtain ⟨y0V1, y1V1, y2V1⟩ := KY.out V1 hV1
        have RV := Lib.hid (ROW.out.nx hV1)
        have HV := Lib.hid hV1
        have LN : Hid (out.length + [prOf y].length ≤ 1000000000) := by show _ ≤ _; simp only [List.length_singleton]; have := HOL.out; omega
        have HS : Hid (W.heap.size ≤ V1.heap.size) := (HNX.out.trans hV1).size
        go_wp2_with (at_builtin; refine wpList_app rfl _ _ rfl W.heap.size (.slice Av out.length cv) _ _ [prOf y] rfl rfl (RV.out.alloc _) (rdc_one V1 (prOf y)) LN.out (by have := HS.out; simp; omega) ?_; intro v1 w3 hrow1 hg1; obtain ⟨q1, q2⟩ := NXT.out V1 w3 _ v1 HV.out hrow1 hg1; have Q2 := Lib.hid q2; clear q2 hrow1 hg1)
        go_roundg (gk - 1)
        case measure => exact q1
        case rel => exact ⟨i, k + 1, by push_cast; rfl, by push_cast; rfl, Q2⟩
      · have g1 : decide ((k : Int) < (ys.length : Int)) = false := by simp; omega
        have g2 : decide (k < ys.length) = false := by simp; omega
        have FIN : Hid (Row wr w.heap.size (.slice Av out.length cv) (chg xs ys) ∧ Nx w wr) := by
          rw [List.drop_eq_nil_of_le (by omega), List.drop_eq_nil_of_le (by omega), show chg ([] : List KV) [] = [] from rfl, List.append_nil] at hch
          rw [← hch]
          exact ⟨ROW.out.lower N1.out.size, N1.out.trans HNX.out⟩
        clear STEP STAY hch hm
        go_wp2
        go_ret
        exact ⟨_, rfl, FIN.out⟩
end Go.Proofs.Ytekcphpeaoaaaaa

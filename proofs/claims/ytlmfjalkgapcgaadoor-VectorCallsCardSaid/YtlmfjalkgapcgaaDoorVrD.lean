/- The document's answers for package vector: Bump. -/
import Derived.Test.YtlmfjalkgapcgaaDoorVrC
import Derived.Test.YtlmfjalkgapcgaaDoorVcBumps
import Derived.Deep.DeepCutAuto
namespace Go.Proofs.YtlmfjalkgapcgaaDoor
open Go.RowKit
set_option linter.unusedVariables false

attribute [local go_sem] Oper.semAt_some

/-! ### Values by device, and the vector that they make -/
theorem vsF_vl {l : List Ct} : ∀ {a : Int} (f : Nat → Nat), 0 ≤ a → vld a l = true → ∀ d : Nat, vsF f l d = if vl l (d : Int) ≠ 0 then vl l (d : Int) else f d := by
  induction l with
  | nil => intro a f _ _ d; simp [vsF, vl]
  | cons c l ih =>
    intro a f ha h d
    rw [vld_cons] at h
    have e := ih (a := c.d) (upd f c.d.toNat c.n) (by omega) h.2 d
    show vsF (upd f c.d.toNat c.n) l d = _
    rw [e]
    by_cases q : c.d = (d : Int)
    · have z : vl l (d : Int) = 0 := vl_low h.2 _ (by omega)
      have t : c.d.toNat = d := by omega
      rw [vl_cons_eq q, if_neg (by rw [z]; simp), if_pos h.1.2.2.2]
      unfold upd
      rw [if_pos t.symm]
    · have t : d ≠ c.d.toNat := by omega
      rw [vl_cons_ne q]
      unfold upd
      rw [if_neg t]
theorem vs_vl {l : List Ct} (h : vld 0 l = true) (d : Nat) : vsF (fun _ => 0) l d = vl l (d : Int) := by
  rw [vsF_vl _ (Int.le_refl _) h d]
  split <;> omega
theorem md_mem {f : Nat → Nat} {k : Nat} {c : Ct} : c ∈ md f k ↔ ∃ i : Nat, 1 ≤ i ∧ i ≤ k ∧ f i ≠ 0 ∧ c = ⟨(i : Int), f i⟩ := by
  induction k with
  | zero => simp [md]; intro i h1 h2; omega
  | succ k ih =>
    simp only [md, List.mem_append, ih]
    constructor
    · rintro (⟨i, h1, h2, h3, h4⟩ | h)
      · exact ⟨i, h1, by omega, h3, h4⟩
      · split at h
        · rename_i hp
          rw [List.mem_singleton] at h
          exact ⟨k + 1, by omega, Nat.le_refl _, by omega, h⟩
        · cases h
    · rintro ⟨i, h1, h2, h3, h4⟩
      by_cases e : i ≤ k
      · exact .inl ⟨i, h1, e, h3, h4⟩
      · right
        obtain rfl : i = k + 1 := by omega
        rw [if_pos (by omega), List.mem_singleton]
        exact h4
theorem md_asc (f : Nat → Nat) (k : Nat) : (md f k).Pairwise (fun x y => x.d < y.d) := by
  induction k with
  | zero => exact List.Pairwise.nil
  | succ k ih =>
    simp only [md]
    rw [List.pairwise_append]
    refine ⟨ih, by split <;> simp, fun x hx y hy => ?_⟩
    obtain ⟨i, _, h2, _, rfl⟩ := md_mem.1 hx
    split at hy
    · rw [List.mem_singleton] at hy
      subst hy
      show (i : Int) < ((k + 1 : Nat) : Int)
      omega
    · cases hy
theorem md_vld (f : Nat → Nat) : vld 0 (md f 16) = true := vld_of (fun c hc => by
  obtain ⟨i, h1, h2, h3, rfl⟩ := md_mem.1 hc
  exact ⟨by show (1 : Int) ≤ i; omega, by show (i : Int) ≤ 16; omega, by show (0 : Int) < i; omega, h3⟩) (md_asc f 16)
theorem md_vl (f : Nat → Nat) (d : Nat) (h1 : 1 ≤ d) (h2 : d ≤ 16) : vl (md f 16) (d : Int) = f d := by
  by_cases h : f d = 0
  · rw [h]
    refine vl_none fun x hx e => ?_
    obtain ⟨i, _, _, h3, rfl⟩ := md_mem.1 hx
    have : i = d := by have : (i : Int) = d := e; omega
    rw [this] at h3
    exact h3 h
  · exact vl_of_mem (md_asc f 16) (x := ⟨(d : Int), f d⟩) (md_mem.2 ⟨d, h1, h2, h, rfl⟩)
theorem vl_out {l : List Ct} (h : vld 0 l = true) {d : Int} (hd : ¬ (1 ≤ d ∧ d ≤ 16)) : vl l d = 0 := by
  by_cases e : vl l d = 0
  · exact e
  · have := vl_in h d e; omega
/-- The vector that a valid vector's values make. -/
theorem md_ext {l : List Ct} (h : vld 0 l = true) {f : Nat → Nat} (hf : ∀ d : Nat, 1 ≤ d → d ≤ 16 → f d = vl l (d : Int)) : md f 16 = l :=
  vl_ext (md_vld f) h fun d => by
    by_cases hd : 1 ≤ d ∧ d ≤ 16
    · obtain ⟨n, rfl⟩ : ∃ n : Nat, d = n := ⟨d.toNat, by omega⟩
      rw [md_vl f n (by omega) (by omega)]
      exact hf n (by omega) (by omega)
    · rw [vl_out (md_vld f) hd, vl_out h hd]
theorem md_bmp {l : List Ct} (h : vld 0 l = true) {d : Nat} (h1 : 1 ≤ d) (h2 : d ≤ 16) : md (upd (vsF (fun _ => 0) l) d (vl l (d : Int) + 1)) 16 = bmp l (d : Int) :=
  md_ext (bmp_vld h (by omega) (by omega)) fun e h3 h4 => by
    rw [bmp_vl h (by omega) (by omega)]
    unfold upd
    by_cases q : e = d
    · subst q; rw [if_pos rfl, if_pos rfl]
    · rw [if_neg q, if_neg (by omega), vs_vl h]; rfl
/-- A row that is laid and stored. -/
theorem blk_laid (W : World) (t : TypeId) (z cs : Array Value) : BlkIs ((W.alloc (.cells z t)).setRow W.heap.size cs) W.heap.size t cs := blk_setRow (BlkIs.new W t z) cs
theorem nx_laid {w W : World} (h : Nx w W) (t : TypeId) (z cs : Array Value) : Nx w ((W.alloc (.cells z t)).setRow W.heap.size cs) := (h.alloc _).setRow _ _ h.size
theorem zs_size : (#[.int .u64 0, .int .u64 0, .int .u64 0, .int .u64 0, .int .u64 0, .int .u64 0, .int .u64 0, .int .u64 0, .int .u64 0, .int .u64 0, .int .u64 0, .int .u64 0, .int .u64 0, .int .u64 0, .int .u64 0, .int .u64 0, .int .u64 0] : Array Value).size = 17 := rfl

set_option maxRecDepth 100000 in
set_option maxHeartbeats 1000000 in
theorem rbump_any (w : World) (v : Value) (l : List Ct) (d : Int) (h : RdG ctE w v l) (k : CtsOk l) (hn : l.length ≤ 10000000) :
    Calls Tryd.prog 12 #[v, .int .i64 d] w (Ret2 fun r n w' => BumpR w.heap.size l d r n w' ∧ Nx w w') := by
  have CH := Lib.hid (rcheck_any w v l h (by omega))
  have VS : Hid (vld 0 l = true → ∀ W, Nx w W → Calls Tryd.prog 39 #[v] W fun e w' => e = .returned (.agg (arC (vsF (fun _ => 0) l))) ∧ Nx W w') := fun hv W hW => rvalues_any W v l (h.nx hW) hv (by omega)
  have hvl : vl l d < 18446744073709551616 := vl_small (fun c hc => by have := (k c hc).2.2; omega) (by omega)
  have E : Hid (∀ r n w2, BumpR w.heap.size l d r n w2 ↔ if vld 0 l && devB d then (if vl l d = 18446744073709551615 then r = .slice none 0 0 ∧ n = 3 else RwG ctE w2 w.heap.size r (bmp l d) ∧ n = 0) else r = .slice none 0 0 ∧ n = 2) := fun _ _ _ => Iff.rfl
  generalize BumpR w.heap.size l d = R at *
  clear h k
  go_enter Tryd.func12, Tryd.ntmps12
  go_wp2_with fail
  refine CH.out.mono ?_
  rintro e w1 ⟨rfl, hn1⟩
  have N1 := Lib.hid hn1
  clear CH hn1
  cases b1 : vld 0 l with
  | false =>
    have FIN : Hid (∀ w', R (.slice none 0 0) 2 w') := fun w' => (E.out _ _ _).2 (by rw [b1]; exact ⟨rfl, rfl⟩)
    clear E VS b1
    go_wp2
    go_ret2
    exact ⟨_, _, rfl, FIN.out _, N1.out⟩
  | true =>
    cases d1 : decide (d < (1 : Int)) with
    | true =>
      have FIN : Hid (∀ w', R (.slice none 0 0) 2 w') := fun w' => (E.out _ _ _).2 (by
        have : devB d = false := by simp [devB] at *; omega
        rw [this, Bool.and_false]; exact ⟨rfl, rfl⟩)
      clear E VS b1
      go_wp2
      go_ret2
      exact ⟨_, _, rfl, FIN.out _, N1.out⟩
    | false =>
    cases d2 : decide ((16 : Int) < d) with
    | true =>
      have FIN : Hid (∀ w', R (.slice none 0 0) 2 w') := fun w' => (E.out _ _ _).2 (by
        have : devB d = false := by simp [devB] at *; omega
        rw [this, Bool.and_false]; exact ⟨rfl, rfl⟩)
      clear E VS b1
      go_wp2
      go_ret2
      exact ⟨_, _, rfl, FIN.out _, N1.out⟩
    | false =>
      have hd1 : 1 ≤ d := by simp at d1; omega
      have hd2 : d ≤ 16 := by simp at d2; omega
      have hdev : devB d = true := by simp [devB]; omega
      obtain ⟨dn, rfl⟩ : ∃ n : Nat, d = n := ⟨d.toNat, by omega⟩
      have HM := md_bmp b1 (d := dn) (by omega) (by omega)
      have HF := vs_vl b1 dn
      have CV := Lib.hid (VS.out b1 w1 N1.out)
      have E2 : Hid (∀ r n w2, R r n w2 ↔ if vl l (dn : Int) = 18446744073709551615 then r = .slice none 0 0 ∧ n = 3 else RwG ctE w2 w.heap.size r (bmp l (dn : Int)) ∧ n = 0) := fun r n w2 => by rw [E.out, b1, hdev]; exact Iff.rfl
      clear E VS b1 hdev
      generalize vsF (fun _ => 0) l = F at *
      generalize vl l (dn : Int) = x at *
      generalize bmp l (dn : Int) = bl at *
      go_wp2_with fail
      refine CV.out.mono ?_
      rintro e w2 ⟨rfl, hn2⟩
      have N2 := Lib.hid (N1.out.trans hn2)
      clear CV hn2
      have BL := Lib.hid (BlkIs.new w2 61 #[.int .u64 0, .int .u64 0, .int .u64 0, .int .u64 0, .int .u64 0, .int .u64 0, .int .u64 0, .int .u64 0, .int .u64 0, .int .u64 0, .int .u64 0, .int .u64 0, .int .u64 0, .int .u64 0, .int .u64 0, .int .u64 0, .int .u64 0])
      have SZ : Hid (w.heap.size ≤ w2.heap.size) := N2.out.size
      have UB := blk_laid w2 61 #[.int .u64 0, .int .u64 0, .int .u64 0, .int .u64 0, .int .u64 0, .int .u64 0, .int .u64 0, .int .u64 0, .int .u64 0, .int .u64 0, .int .u64 0, .int .u64 0, .int .u64 0, .int .u64 0, .int .u64 0, .int .u64 0, .int .u64 0] (arC F)
      have UN := nx_laid N2.out 61 #[.int .u64 0, .int .u64 0, .int .u64 0, .int .u64 0, .int .u64 0, .int .u64 0, .int .u64 0, .int .u64 0, .int .u64 0, .int .u64 0, .int .u64 0, .int .u64 0, .int .u64 0, .int .u64 0, .int .u64 0, .int .u64 0, .int .u64 0] (arC F)
      obtain ⟨B, hB⟩ : ∃ B, w2.heap.size = B := ⟨_, rfl⟩
      obtain ⟨U, hU⟩ : ∃ U, (w2.alloc (.cells #[.int .u64 0, .int .u64 0, .int .u64 0, .int .u64 0, .int .u64 0, .int .u64 0, .int .u64 0, .int .u64 0, .int .u64 0, .int .u64 0, .int .u64 0, .int .u64 0, .int .u64 0, .int .u64 0, .int .u64 0, .int .u64 0, .int .u64 0] 61)).setRow w2.heap.size (arC F) = U := ⟨_, rfl⟩
      rw [hU] at UB UN
      rw [hB] at UB
      have c1 := UB.cell dn
      rw [arC_at _ _ (by omega), HF] at c1
      have f1 := UB.frozen dn
      obtain ⟨m, hm⟩ : ∃ m, m = if x = 18446744073709551615 then 0 else x + 1 := ⟨_, rfl⟩
      have hw : IntKind.u64.wrap ((x : Int) + 1) = (m : Int) := by
        rw [hm]
        by_cases e : x = 18446744073709551615
        · subst e; rfl
        · rw [if_neg e, IntWalk.u64_in _ (by omega)]; omega
      have VB := UB.set dn (.int .u64 m)
      rw [arC_set] at VB
      have VN : Hid (Nx w (U.setCell ⟨B, dn, none⟩ (.int .u64 m))) := UN.set _ _ _ (by rw [← hB]; exact SZ.out)
      have c2 := VB.cell dn
      rw [arC_at _ _ (by omega)] at c2
      have ef : upd F dn m dn = m := if_pos rfl
      rw [ef] at c2
      have HVB := Lib.hid VB
      have i0 : (0 : Int) ≤ (dn : Int) := by omega
      have i1 : (dn : Int) < 17 := by omega
      have HU := Lib.hid hU
      have HB := Lib.hid hB
      have HME : Hid (x ≠ 18446744073709551615 → md (upd F dn m) 16 = bl) := fun e => by rw [hm, if_neg e]; exact HM
      have HMX := Lib.hid hm
      clear UB UN VB ef hU hB HM HF hm hd1 hd2
      go_upto_region 4 with (first
        | (refine wpList_store_row rfl 61 (.tmp 6) (.tmp 19) rfl w2.heap.size (arC F) rfl rfl 61 _ BL.out (by rw [info17, arC_size]) (by rw [arC_size]; rfl) (arC_one _) ?_)
        | fail)
      rw [HU.out, HB.out]
      cases z : ((m : Int) == 0) with
      | true =>
        have FIN : Hid (∀ w', R (.slice none 0 0) 3 w') := fun w' => (E2.out _ _ _).2 (by
          have := HMX.out
          by_cases e : x = 18446744073709551615
          · rw [if_pos e]; exact ⟨rfl, rfl⟩
          · rw [if_neg e] at this; simp at z; omega)
        go_wp2
        go_ret2
        exact ⟨_, _, rfl, FIN.out _, VN.out⟩
      | false =>
        have FIN : Hid (x ≠ 18446744073709551615) := fun e => by
          have := HMX.out
          rw [if_pos e] at this
          subst this
          simp at z
        have MD := Lib.hid (rmade_any (U.setCell ⟨B, dn, none⟩ (.int .u64 m)) (upd F dn m))
        go_wp2_with (first
          | (refine wpList_load_row rfl 61 (.tmp 6) rfl B rfl 61 (arC (upd F dn m)) (0, 0) _ HVB.out Tryd.underlying61 rfl (by rw [info17, arC_size]) ?_)
          | fail)
        refine MD.out.mono ?_
        rintro e w5 ⟨r, rfl, hr, hn5⟩
        rw [HME.out FIN.out] at hr
        have F5 : Hid (R r 0 w5) := (E2.out _ _ _).2 (by rw [if_neg FIN.out]; exact ⟨hr.more VN.out.size, rfl⟩)
        have N5 := Lib.hid (VN.out.trans hn5)
        clear hr hn5 MD c1 c2 f1
        go_wp2
        go_ret2
        exact ⟨_, _, rfl, F5.out, N5.out⟩
end Go.Proofs.YtlmfjalkgapcgaaDoor

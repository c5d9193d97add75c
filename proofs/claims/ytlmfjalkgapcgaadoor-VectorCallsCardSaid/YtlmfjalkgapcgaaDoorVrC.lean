/- The document's answers for package vector: the vector of an array of values. -/
import Derived.Test.YtlmfjalkgapcgaaDoorVrB
import Derived.Test.YtlmfjalkgapcgaaDoorVcOps
namespace Go.Proofs.YtlmfjalkgapcgaaDoor
open Go.RowKit
set_option linter.unusedVariables false

attribute [local go_sem] Oper.semAt_some

/-- The counts of an array of values: devices 1 to k. -/
def md (f : Nat → Nat) : Nat → List Ct
  | 0 => []
  | k + 1 => md f k ++ if 0 < f (k + 1) then [⟨((k + 1 : Nat) : Int), f (k + 1)⟩] else []
theorem md_len (f : Nat → Nat) (k : Nat) : (md f k).length ≤ k := by
  induction k with
  | zero => exact Nat.le_refl _
  | succ k ih => simp only [md, List.length_append]; split <;> simp <;> omega

set_option maxRecDepth 100000 in
set_option maxHeartbeats 1000000 in
theorem rmade_any (w : World) (f : Nat → Nat) :
    Calls Tryd.prog 40 #[.agg (arC f)] w (Ret fun r w' => RwG ctE w' w.heap.size r (md f 16) ∧ Nx w w') := by
  go_enter Tryd.func40, Tryd.ntmps40
  go_wp2
  have HB0 : Hid (BlkIs (w.alloc (.cells (arC f) 61)) w.heap.size 61 (arC f)) := BlkIs.new _ _ _
  have N0 : Hid (Nx w (w.alloc (.cells (arC f) 61))) := (Nx.refl _).alloc _
  generalize w.alloc (.cells (arC f) 61) = w1 at *
  go_loopw [3, 4] (fun x3 x wr => ∃ (i : Nat) (A n c : _), x3 = .slice A n c ∧ x = .int .i64 ((i + 1 : Nat) : Int) ∧ i ≤ 16 ∧ Hid (Nx w1 wr ∧ RwG ctE wr w1.heap.size (.slice A n c) (md f i))) (fun _ x _ => 17 - (intOf x).toNat)
  case atStart => exact ⟨0, _, _, _, rfl, rfl, Nat.zero_le _, Nx.refl _, RwG.nil _ _⟩
  case round =>
    obtain ⟨i, A3, n3, c3, rfl, rfl, hi, hh⟩ := hrel
    obtain ⟨hnx, hd⟩ := hh.out
    by_cases hlt : i < 16
    · have e2 : decide (((i + 1 : Nat) : Int) ≤ 16) = true := by simp; omega
      have e3 : (0 : Int) ≤ ((i + 1 : Nat) : Int) := by omega
      have e4 : ((i + 1 : Nat) : Int) < 17 := by omega
      have hw : IntKind.i64.wrap (((i + 1 : Nat) : Int) + 1) = ((i + 1 + 1 : Nat) : Int) := by rw [IntWalk.i64_in _ (by omega)]; omega
      have c1 := (HB0.out.nx hnx).cell (i + 1)
      rw [arC_at _ _ (by omega)] at c1
      have HMD : Hid (md f (i + 1) = md f i ++ if 0 < f (i + 1) then [⟨((i + 1 : Nat) : Int), f (i + 1)⟩] else []) := rfl
      have HI : Hid (i + 1 ≤ 16) := by show _ ≤ _; omega
      have LN : Hid (∀ p : Ct, (md f i).length + [p].length ≤ 1000000000) := fun p => by have := md_len f i; simp only [List.length_singleton]; omega
      have NXT : Hid (∀ l V v' w3, Nx wr V → RwG ctE w3 w1.heap.size v' l → V.grownBy w3 (Value.slice A3 n3 c3).ownBlock → Nx w1 w3 ∧ RwG ctE w3 w1.heap.size v' l) := fun l V v' w3 hv hr hg =>
        ⟨(hnx.trans hv).grow (hd.nx hv) (Nat.le_refl _) hg, hr⟩
      have ACC := Lib.hid hd
      have SZ : Hid (w1.heap.size ≤ wr.heap.size) := hnx.size
      generalize f (i + 1) = q at *
      by_cases hq : 0 < q
      · have g1 : decide ((0 : Int) < (q : Int)) = true := by simpa using hq
        have g2 : (0 : Int) < (q : Int) := by omega
        have HM2 : Hid (md f (i + 1) = md f i ++ [⟨((i + 1 : Nat) : Int), q⟩]) := by have := HMD.out; rw [if_pos hq] at this; exact this
        clear hh hnx hd hlt HMD
        generalize hk : i + 1 = k at *
        go_wp2_with (at_builtin; refine wpList_appG (E := ctE) 23 Tryd.underlying23 rfl _ _ rfl w1.heap.size (.slice A3 n3 c3) _ (md f i) [⟨(k : Int), q⟩] rfl rfl (ACC.out.nx ((Nx.refl _).alloc _)) (rd_lit _ _ rfl) (LN.out _) (Nat.le_trans SZ.out ((Nx.refl _).alloc _).size) ?_; intro v1 w3 hrow1 hg1; have g1 := NXT.out _ _ v1 w3 ((Nx.refl _).alloc _) hrow1 hg1; obtain ⟨A6, n6, c6, rfl⟩ : ∃ A n c, v1 = .slice A n c := (by obtain ⟨A, c, e⟩ := hrow1.form; exact ⟨_, _, _, e⟩); have G1 := Lib.hid g1; clear g1 hrow1 hg1)
        go_roundw
        case rel => exact ⟨k, _, _, _, rfl, rfl, HI.out, G1.out.1, by rw [HM2.out]; exact G1.out.2⟩
        case measure => simp only [intOf, Int.toNat_natCast]; have := HI.out; omega
      · have g1 : decide ((0 : Int) < (q : Int)) = false := by simpa using hq
        have g2 : ¬ (0 : Int) < (q : Int) := by omega
        have HM2 : Hid (md f (i + 1) = md f i) := by have := HMD.out; rw [if_neg hq, List.append_nil] at this; exact this
        have HN := Lib.hid hnx
        clear hh hnx hd hlt HMD
        generalize hk : i + 1 = k at *
        go_wp2
        go_roundw
        case rel => exact ⟨k, _, _, _, rfl, rfl, HI.out, HN.out, by rw [HM2.out]; exact ACC.out⟩
        case measure => simp only [intOf, Int.toNat_natCast]; have := HI.out; omega
    · obtain rfl : i = 16 := by omega
      have HD : Hid (RwG ctE wr w.heap.size (.slice A3 n3 c3) (md f 16)) := hd.more N0.out.size
      have HF := Lib.hid (N0.out.trans hnx)
      clear hh hnx hd
      go_wp2
      go_ret
      exact ⟨_, rfl, HD.out, HF.out⟩
end Go.Proofs.YtlmfjalkgapcgaaDoor

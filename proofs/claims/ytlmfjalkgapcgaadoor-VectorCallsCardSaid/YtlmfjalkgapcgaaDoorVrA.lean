/- The document's answers for package vector: Check, Value. -/
import Derived.Test.YtlmfjalkgapcgaaDoorVcChk
import Derived.BigQuiet
namespace Go.Proofs.YtlmfjalkgapcgaaDoor
open Go.RowKit
set_option linter.unusedVariables false

attribute [local go_sem] Oper.semAt_some

/-- The device ahead of place i. -/
def prevD (l : List Ct) (i : Nat) : Int := if i = 0 then 0 else match l[i - 1]? with | some c => c.d | none => 0
set_option maxRecDepth 100000 in
set_option maxHeartbeats 2000000 in
theorem rcheck_any (w : World) (v : Value) (l : List Ct) (h : RdG ctE w v l) (hn : l.length ≤ 9223372036854775807) :
    Calls Tryd.prog 21 #[v] w fun e w' => e = .returned (.int .i64 (if vld 0 l then 0 else 2)) ∧ Nx w w' := by
  obtain ⟨A, c, rfl⟩ := h.form
  have HA := Lib.hid h
  have E : Hid (∀ b : Bool, vld 0 l = b → (if vld 0 l then (0 : Int) else 2) = if b then 0 else 2) := fun b e => by rw [e]
  generalize (if vld 0 l then (0 : Int) else 2) = r at *
  clear h
  go_enter Tryd.func21, Tryd.ntmps21
  go_wp2
  go_loopw [3] (fun x wr => ∃ i : Nat, x = .int .i64 i ∧ i ≤ l.length ∧ Hid (Nx w wr ∧ vld (prevD l i) (l.drop i) = vld 0 l)) (fun x _ => l.length - (intOf x).toNat)
  case atStart => exact ⟨0, rfl, Nat.zero_le _, Nx.refl _, rfl⟩
  case round =>
    obtain ⟨i, rfl, hi, hh⟩ := hrel
    obtain ⟨hnx, hd⟩ := hh.out
    by_cases hlt : i < l.length
    · have e2 : decide ((i : Int) < (l.length : Int)) = true := by simpa using hlt
      have e2b : decide (i < l.length) = true := by simpa using hlt
      have e3 : (0 : Int) ≤ (i : Int) := by omega
      have e4 : (i : Int) < (l.length : Int) := by omega
      obtain ⟨b, o, rfl, x0, x1⟩ := ct_cells (HA.out.nx hnx) i hlt
      have hw : IntKind.i64.wrap ((i : Int) + 1) = ((i + 1 : Nat) : Int) := by rw [IntWalk.i64_in _ (by omega)]; omega
      rw [vld_drop hlt] at hd
      have hpd : prevD l (i + 1) = l[i].d := by
        unfold prevD
        rw [if_neg (by omega), Nat.add_sub_cancel, List.getElem?_eq_getElem hlt]
      have HL := Lib.hid hlt
      generalize l[i] = q at *
      have okd : ∀ {q : Ct}, okC (prevD l i) q = true ↔ (1 ≤ q.d ∧ q.d ≤ 16 ∧ prevD l i < q.d ∧ q.n ≠ 0) := by intro q; simp [okC]
      cases d1 : decide (q.d < (1 : Int)) with
      | true =>
        have FIN : Hid (r = 2) := by
          have h0 : ¬ (1 ≤ q.d) := by simp at d1; omega
          have : okC (prevD l i) q = false := by rw [← Bool.not_eq_true, okd]; omega
          rw [this] at hd
          exact E.out false hd.symm
        have HF := Lib.hid hnx
        clear hh hnx hd hpd okd hlt
        go_wp2_with fail
        go_quiet (fail)
        go_wp2
        go_ret
        exact ⟨by rw [FIN.out]; rfl, HF.out.drewN _⟩
      | false =>
      cases d2 : decide ((16 : Int) < q.d) with
      | true =>
        have FIN : Hid (r = 2) := by
          have h0 : ¬ (q.d ≤ 16) := by simp at d2; omega
          have : okC (prevD l i) q = false := by rw [← Bool.not_eq_true, okd]; omega
          rw [this] at hd
          exact E.out false hd.symm
        have HF := Lib.hid hnx
        clear hh hnx hd hpd okd hlt
        go_wp2_with fail
        go_quiet (fail)
        go_wp2
        go_ret
        exact ⟨by rw [FIN.out]; rfl, HF.out.drewN _⟩
      | false =>
      cases d3 : ((q.n : Int) == 0) with
      | true =>
        have FIN : Hid (r = 2) := by
          have h0 : q.n = 0 := by simp at d3; omega
          have : okC (prevD l i) q = false := by rw [← Bool.not_eq_true, okd]; omega
          rw [this] at hd
          exact E.out false hd.symm
        have HF := Lib.hid hnx
        clear hh hnx hd hpd okd hlt
        go_wp2_with fail
        go_quiet (fail)
        go_wp2
        go_ret
        exact ⟨by rw [FIN.out]; rfl, HF.out.drewN _⟩
      | false =>
      have g1 : 1 ≤ q.d := by simp at d1; omega
      have g2 : q.d ≤ 16 := by simp at d2; omega
      have g3 : q.n ≠ 0 := fun e => by rw [e] at d3; simp at d3
      by_cases h0 : i = 0
      · have okq : okC (prevD l i) q = true := okd.2 ⟨g1, g2, by unfold prevD; rw [if_pos h0]; omega, g3⟩
        rw [okq, Bool.true_and, ← hpd] at hd
        have HD := Lib.hid hd
        have HF := Lib.hid hnx
        have d4 : decide ((0 : Int) < (i : Int)) = false := by simp; omega
        have d4b : decide (0 < i) = false := by simp; omega
        clear hh hnx hd hpd okd hlt g1 g2 g3 okq h0
        go_wp2_with fail
        go_quiet (fail)
        go_wp2
        go_roundw
        case rel => exact ⟨i + 1, rfl, HL.out, HF.out.drewN _, HD.out⟩
        case measure => simp only [intOf, Int.toNat_natCast]; have := HL.out; omega
      · have hj : i - 1 < l.length := by omega
        obtain ⟨b', o', e', y0, y1⟩ := ct_cells (HA.out.nx hnx) (i - 1) hj
        simp only [Option.some.injEq, Addr.mk.injEq, and_true] at e'
        obtain ⟨rfl, rfl⟩ := e'
        have hpj : prevD l i = l[i - 1].d := by
          unfold prevD
          rw [if_neg h0, List.getElem?_eq_getElem hj]
        have d4 : decide ((0 : Int) < (i : Int)) = true := by simp; omega
        have d4b : decide (0 < i) = true := by simp; omega
        have hwj : IntKind.i64.wrap ((i : Int) - 1) = ((i - 1 : Nat) : Int) := by rw [IntWalk.i64_in _ (by omega)]; omega
        generalize l[i - 1] = q0 at *
        have HJ := Lib.hid hj
        have e5 : (0 : Int) ≤ ((i - 1 : Nat) : Int) := by omega
        have e6 : ((i - 1 : Nat) : Int) < (l.length : Int) := by omega
        clear hj
        generalize i - 1 = j at *
        cases d5 : decide (q.d ≤ q0.d) with
        | true =>
          have FIN : Hid (r = 2) := by
            have h1 : ¬ (prevD l i < q.d) := by rw [hpj]; simp at d5; omega
            have : okC (prevD l i) q = false := by rw [← Bool.not_eq_true, okd]; omega
            rw [this] at hd
            exact E.out false hd.symm
          have HF := Lib.hid hnx
          clear hh hnx hd hpd okd hlt hpj g1 g2 g3 h0
          go_wp2_with fail
          go_quiet (fail)
          go_wp2
          go_ret
          exact ⟨by rw [FIN.out]; rfl, HF.out.drewN _⟩
        | false =>
          have okq : okC (prevD l i) q = true := okd.2 ⟨g1, g2, by rw [hpj]; simp at d5; omega, g3⟩
          rw [okq, Bool.true_and, ← hpd] at hd
          have HD := Lib.hid hd
          have HF := Lib.hid hnx
          clear hh hnx hd hpd okd hlt hpj g1 g2 g3 h0 okq
          go_wp2_with fail
          go_quiet (fail)
          go_wp2
          go_roundw
          case rel => exact ⟨i + 1, rfl, HL.out, HF.out.drewN _, HD.out⟩
          case measure => simp only [intOf, Int.toNat_natCast]; have := HL.out; omega
    · have e2 : decide ((i : Int) < (l.length : Int)) = false := by simpa using hlt
      have e2b : decide (i < l.length) = false := by simpa using hlt
      rw [List.drop_eq_nil_of_le (by omega)] at hd
      have FIN : Hid (r = 0) := E.out true hd.symm
      have HF := Lib.hid hnx
      clear hh hnx hd
      go_wp2
      go_ret
      exact ⟨by rw [FIN.out]; rfl, HF.out⟩

set_option maxRecDepth 100000 in
set_option maxHeartbeats 1000000 in
theorem rvalue_any (w : World) (v : Value) (l : List Ct) (d : Int) (h : RdG ctE w v l) (hn : l.length ≤ 9223372036854775807) :
    Calls Tryd.prog 23 #[v, .int .i64 d] w fun e w' => e = .returned (.int .u64 (vl l d)) ∧ Nx w w' := by
  obtain ⟨A, c, rfl⟩ := h.form
  have HA := Lib.hid h
  clear h
  go_enter Tryd.func23, Tryd.ntmps23
  go_wp2
  go_loopw [5] (fun x wr => ∃ i : Nat, x = .int .i64 i ∧ i ≤ l.length ∧ Hid (Nx w wr ∧ vl (l.drop i) d = vl l d)) (fun x _ => l.length - (intOf x).toNat)
  case atStart => exact ⟨0, rfl, Nat.zero_le _, Nx.refl _, rfl⟩
  case round =>
    obtain ⟨i, rfl, hi, hh⟩ := hrel
    have hnx := hh.out.1
    by_cases hlt : i < l.length
    · have e2 : decide ((i : Int) < (l.length : Int)) = true := by simpa using hlt
      have e2b : decide (i < l.length) = true := by simpa using hlt
      have e3 : (0 : Int) ≤ (i : Int) := by omega
      have e4 : (i : Int) < (l.length : Int) := by omega
      obtain ⟨b, o, rfl, x0, x1⟩ := ct_cells (HA.out.nx hnx) i hlt
      have hst := hh.out.2
      rw [vl_drop hlt] at hst
      have hw : IntKind.i64.wrap ((i : Int) + 1) = ((i + 1 : Nat) : Int) := by rw [IntWalk.i64_in _ (by omega)]; omega
      have HL := Lib.hid hlt
      have HF := Lib.hid hnx
      generalize l[i] = q at *
      by_cases hq : q.d = d
      · have d1 : (q.d == d) = true := by simpa using hq
        rw [if_pos hq] at hst
        have HS := Lib.hid hst
        clear hh hnx hst hq
        go_wp2
        go_ret
        exact ⟨by rw [← HS.out]; rfl, by first | exact HF.out | exact HF.out.drewN _⟩
      · have d1 : (q.d == d) = false := by simpa using hq
        rw [if_neg hq] at hst
        have HS := Lib.hid hst
        clear hh hnx hst hq
        go_wp2
        go_roundw
        case rel => exact ⟨i + 1, rfl, HL.out, HF.out, HS.out⟩
        case measure => simp only [intOf, Int.toNat_natCast]; have := HL.out; omega
    · have e2 : decide ((i : Int) < (l.length : Int)) = false := by simpa using hlt
      have e2b : decide (i < l.length) = false := by simpa using hlt
      have hst := hh.out.2
      rw [List.drop_eq_nil_of_le (by omega)] at hst
      have HS := Lib.hid hst
      have HNX := Lib.hid hnx
      clear hh hnx hst
      go_wp2
      go_ret
      exact ⟨by rw [← HS.out]; rfl, HNX.out⟩
end Go.Proofs.YtlmfjalkgapcgaaDoor

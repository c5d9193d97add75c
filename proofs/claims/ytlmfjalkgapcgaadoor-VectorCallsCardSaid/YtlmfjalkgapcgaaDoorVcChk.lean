/- Package vector: isDevice, valid, value. -/
import Derived.Test.YtlmfjalkgapcgaaDoorVcMem
import Derived.Deep.RegionHeld3
namespace Go.Proofs.YtlmfjalkgapcgaaDoor
open Go.RowKit
set_option linter.unusedVariables false

attribute [local go_sem] Oper.semAt_some

def devB (d : Int) : Bool := decide (1 ≤ d) && decide (d ≤ 16)
set_option maxRecDepth 100000 in
theorem isDevice_any (w : World) (d : Int) :
    Calls Tryd.prog 27 #[.int .i64 d] w fun e w' => e = .returned (.bool (devB d)) ∧ Nx w w' := by
  unfold devB
  go_enter Tryd.func27, Tryd.ntmps27
  cases d1 : decide ((1 : Int) ≤ d) with
  | true =>
    cases d2 : decide (d ≤ (16 : Int)) with
    | true =>
      go_wp2
      go_ret
      exact ⟨rfl, Nx.refl _⟩
    | false =>
      go_wp2
      go_ret
      exact ⟨rfl, Nx.refl _⟩
  | false =>
    go_wp2
    go_ret
    exact ⟨rfl, Nx.refl _⟩

/-- The cells of a count. -/
theorem ct_cells {w : World} {A : Option Addr} {n c : Nat} {l : List Ct} (h : RdG ctE w (.slice A n c) l) (i : Nat) (hi : i < l.length) :
    ∃ b o, A = some ⟨b, o, none⟩ ∧ w.cell? ⟨b, o + i * 2, none⟩ = some (.int .i64 l[i].d) ∧ w.cell? ⟨b, o + i * 2 + 1, none⟩ = some (.int .u64 l[i].n) := by
  obtain ⟨b, o, e, h⟩ := h.at i hi
  exact ⟨b, o, e, h 0 _ rfl, h 1 _ rfl⟩
theorem box_ct (w : World) (c : Ct) : BlkIs (w.alloc (.cells #[.int .i64 c.d, .int .u64 c.n] 29)) w.heap.size 29 #[.int .i64 c.d, .int .u64 c.n] := BlkIs.new _ _ _
theorem vl_drop {l : List Ct} {i : Nat} (h : i < l.length) (d : Int) : vl (l.drop i) d = if l[i].d = d then l[i].n else vl (l.drop (i + 1)) d := by
  rw [List.drop_eq_getElem_cons h]; rfl

set_option maxRecDepth 100000 in
set_option maxHeartbeats 1000000 in
theorem value_any (w : World) (v : Value) (l : List Ct) (d : Int) (h : RdG ctE w v l) (hn : l.length ≤ 9223372036854775807) :
    Calls Tryd.prog 28 #[v, .int .i64 d] w fun e w' => e = .returned (.int .u64 (vl l d)) ∧ Nx w w' := by
  obtain ⟨A, c, rfl⟩ := h.form
  have HA := Lib.hid h
  clear h
  go_enter Tryd.func28, Tryd.ntmps28
  go_wp2
  go_loopw [9] (fun x wr => ∃ i : Nat, x = .int .i64 i ∧ i ≤ l.length ∧ Hid (Nx w wr ∧ vl (l.drop i) d = vl l d)) (fun x _ => l.length - (intOf x).toNat)
  case atStart => exact ⟨0, rfl, Nat.zero_le _, Nx.refl _, rfl⟩
  case round =>
    obtain ⟨i, rfl, hi, hh⟩ := hrel
    have hnx := hh.out.1
    by_cases hlt : i < l.length
    · have e2 : decide ((i : Int) < (l.length : Int)) = true := by simpa using hlt
      have e2b : decide (i < l.length) = true := by simpa using hlt
      have e3 : (0 : Int) ≤ (i : Int) := by omega
      have e4 : (i : Int) < (l.length : Int) := by omega
      obtain ⟨b, o, rfl, x0, x1⟩ := ct_cells (HA.out.nx hnx) i hlt
      have hst := hh.out.2
      rw [vl_drop hlt] at hst
      have hw : IntKind.i64.wrap ((i : Int) + 1) = ((i + 1 : Nat) : Int) := by rw [IntWalk.i64_in _ (by omega)]; omega
      have HNX := Lib.hid hnx
      have HL := Lib.hid hlt
      generalize l[i] = q at *
      by_cases hq : q.d = d
      · have d1 : (q.d == d) = true := by simpa using hq
        rw [if_pos hq] at hst
        have HS := Lib.hid hst
        have HF := Lib.hid (hnx.alloc (.cells #[.int .i64 q.d, .int .u64 q.n] 29))
        clear hh hnx hst hq
        go_wp2
        go_ret
        exact ⟨by rw [← HS.out]; rfl, HF.out⟩
      · have d1 : (q.d == d) = false := by simpa using hq
        rw [if_neg hq] at hst
        have HS := Lib.hid hst
        have HF := Lib.hid (hnx.alloc (.cells #[.int .i64 q.d, .int .u64 q.n] 29))
        clear hh hnx hst hq
        go_wp2
        go_roundw
        case rel => exact ⟨i + 1, rfl, HL.out, HF.out, HS.out⟩
        case measure => simp only [intOf, Int.toNat_natCast]; have := HL.out; omega
    · have e2 : decide ((i : Int) < (l.length : Int)) = false := by simpa using hlt
      have e2b : decide (i < l.length) = false := by simpa using hlt
      have hst := hh.out.2
      rw [List.drop_eq_nil_of_le (by omega)] at hst
      have HS := Lib.hid hst
      have HNX := Lib.hid hnx
      clear hh hnx hst
      go_wp2
      go_ret
      exact ⟨by rw [← HS.out]; rfl, HNX.out⟩

theorem okC_dev {last : Int} {c : Ct} (h : devB c.d = false) : okC last c = false := by
  unfold okC
  refine decide_eq_false fun e => ?_
  unfold devB at h
  rw [Bool.and_eq_false_iff] at h
  rcases h with h | h <;> simp at h <;> omega
theorem okC_le {last : Int} {c : Ct} (h : c.d ≤ last) : okC last c = false := decide_eq_false fun e => by omega
theorem okC_zero {last : Int} {c : Ct} (h : c.n = 0) : okC last c = false := decide_eq_false fun e => e.2.2.2 h
theorem okC_true {last : Int} {c : Ct} (h : devB c.d = true) (h1 : ¬ c.d ≤ last) (h2 : c.n ≠ 0) : okC last c = true := by
  unfold devB at h
  simp only [Bool.and_eq_true, decide_eq_true_eq] at h
  exact decide_eq_true ⟨h.1, h.2, by omega, h2⟩
theorem vld_drop {l : List Ct} {i : Nat} (h : i < l.length) (last : Int) : vld last (l.drop i) = (okC last l[i] && vld l[i].d (l.drop (i + 1))) := by
  rw [List.drop_eq_getElem_cons h]; rfl
set_option maxRecDepth 100000 in
set_option maxHeartbeats 1000000 in
theorem valid_any (w : World) (v : Value) (l : List Ct) (h : RdG ctE w v l) (hn : l.length ≤ 9223372036854775807) :
    Calls Tryd.prog 35 #[v] w fun e w' => e = .returned (.bool (vld 0 l)) ∧ Nx w w' := by
  obtain ⟨A, c, rfl⟩ := h.form
  have HA := Lib.hid h
  clear h
  go_enter Tryd.func35, Tryd.ntmps35
  go_wp2
  go_loopw [3, 8] (fun x3 x8 wr => ∃ (last : Int) (i : Nat), x3 = .int .i64 last ∧ x8 = .int .i64 i ∧ i ≤ l.length ∧ Hid (Nx w wr ∧ vld last (l.drop i) = vld 0 l)) (fun _ x _ => l.length - (intOf x).toNat)
  case atStart => exact ⟨0, 0, rfl, rfl, Nat.zero_le _, Nx.refl _, rfl⟩
  case round =>
    obtain ⟨last, i, rfl, rfl, hi, hh⟩ := hrel
    have hnx := hh.out.1
    by_cases hlt : i < l.length
    · have e2 : decide ((i : Int) < (l.length : Int)) = true := by simpa using hlt
      have e2b : decide (i < l.length) = true := by simpa using hlt
      have e3 : (0 : Int) ≤ (i : Int) := by omega
      have e4 : (i : Int) < (l.length : Int) := by omega
      obtain ⟨b, o, rfl, x0, x1⟩ := ct_cells (HA.out.nx hnx) i hlt
      have hst := hh.out.2
      rw [vld_drop hlt] at hst
      have hw : IntKind.i64.wrap ((i : Int) + 1) = ((i + 1 : Nat) : Int) := by rw [IntWalk.i64_in _ (by omega)]; omega
      have HL := Lib.hid hlt
      generalize l[i] = q at *
      obtain ⟨W, hW⟩ : ∃ W, wr.alloc (.cells #[.int .i64 q.d, .int .u64 q.n] 29) = W := ⟨_, rfl⟩
      have N1 : Nx w W := by rw [← hW]; exact hnx.alloc _
      have b0 : BlkIs W wr.heap.size 29 #[.int .i64 q.d, .int .u64 q.n] := by rw [← hW]; exact box_ct wr q
      have CL := Lib.hid (isDevice_any W q.d)
      cases hd : devB q.d with
      | false =>
        rw [hd] at CL
        rw [okC_dev hd] at hst
        have HS := Lib.hid hst
        have HN := Lib.hid N1
        have c0 : W.cell? ⟨wr.heap.size, 0, none⟩ = some (.int .i64 q.d) := by rw [b0.cell]; rfl
        clear hh hnx hst N1 b0
        go_wp2_with fail
        refine CL.out.mono ?_
        rintro e w2 ⟨rfl, hn2⟩
        have N2 := Lib.hid (HN.out.trans hn2)
        clear CL hn2
        go_wp2
        go_ret
        exact ⟨by rw [← HS.out]; rfl, N2.out⟩
      | true =>
        rw [hd] at CL
        have HD := Lib.hid hd
        have HN := Lib.hid N1
        have HB := Lib.hid b0
        have c0 : W.cell? ⟨wr.heap.size, 0, none⟩ = some (.int .i64 q.d) := by rw [b0.cell]; rfl
        have c1 : W.cell? ⟨wr.heap.size, 1, none⟩ = some (.int .u64 q.n) := by rw [b0.cell]; rfl
        have HH := Lib.hid hst
        clear hh hnx hst N1 b0
        have CC : Hid (∀ w2, Nx W w2 → w2.cell? ⟨wr.heap.size, 0, none⟩ = some (.int .i64 q.d) ∧ w2.cell? ⟨wr.heap.size, 1, none⟩ = some (.int .u64 q.n)) := fun w2 hn => ⟨by rw [(HB.out.nx hn).cell]; rfl, by rw [(HB.out.nx hn).cell]; rfl⟩
        cases hle : decide (q.d ≤ last) with
        | true =>
          have hst := HH.out
          rw [okC_le (by simpa using hle)] at hst
          have HS := Lib.hid hst
          clear hst HH
          go_wp2_with fail
          refine CL.out.mono ?_
          rintro e w2 ⟨rfl, hn2⟩
          obtain ⟨d0, d1⟩ := CC.out w2 hn2
          have N2 := Lib.hid (HN.out.trans hn2)
          clear CL hn2 c0 c1
          go_wp2
          go_ret
          exact ⟨by rw [← HS.out]; rfl, N2.out⟩
        | false =>
          cases hz : ((q.n : Int) == 0) with
          | true =>
            have hst := HH.out
            rw [okC_zero (by simpa using hz)] at hst
            have HS := Lib.hid hst
            clear hst HH
            go_wp2_with fail
            refine CL.out.mono ?_
            rintro e w2 ⟨rfl, hn2⟩
            obtain ⟨d0, d1⟩ := CC.out w2 hn2
            have N2 := Lib.hid (HN.out.trans hn2)
            clear CL hn2 c0 c1
            go_wp2
            go_ret
            exact ⟨by rw [← HS.out]; rfl, N2.out⟩
          | false =>
            have hst := HH.out
            rw [okC_true HD.out (by simpa using hle) (by simpa using hz)] at hst
            have HS := Lib.hid hst
            clear hst HH
            go_wp2_with fail
            refine CL.out.mono ?_
            rintro e w2 ⟨rfl, hn2⟩
            obtain ⟨d0, d1⟩ := CC.out w2 hn2
            have N2 := Lib.hid (HN.out.trans hn2)
            clear CL hn2 c0 c1
            go_wp2
            go_roundw
            case rel => exact ⟨q.d, i + 1, rfl, rfl, HL.out, N2.out, HS.out⟩
            case measure => simp only [intOf, Int.toNat_natCast]; have := HL.out; omega
    · have e2 : decide ((i : Int) < (l.length : Int)) = false := by simpa using hlt
      have e2b : decide (i < l.length) = false := by simpa using hlt
      have hst := hh.out.2
      rw [List.drop_eq_nil_of_le (by omega)] at hst
      have HS := Lib.hid hst
      have HNX := Lib.hid hnx
      clear hh hnx hst
      go_wp2
      go_ret
      exact ⟨by rw [← HS.out]; rfl, HNX.out⟩

set_option maxRecDepth 100000 in
theorem check_any (w : World) (v : Value) (l : List Ct) (h : RdG ctE w v l) (hn : l.length ≤ 9223372036854775807) :
    Calls Tryd.prog 11 #[v] w fun e w' => e = .returned (.int .i64 (if vld 0 l then 0 else 2)) ∧ Nx w w' := by
  have CL := Lib.hid (valid_any w v l h hn)
  generalize vld 0 l = b at *
  clear h
  go_enter Tryd.func11, Tryd.ntmps11
  go_wp2_with fail
  refine CL.out.mono ?_
  rintro e w2 ⟨rfl, hn2⟩
  have N2 := Lib.hid hn2
  clear CL hn2
  cases b with
  | true =>
    go_wp2
    go_ret
    exact ⟨rfl, N2.out⟩
  | false =>
    go_wp2
    go_ret
    exact ⟨rfl, N2.out⟩
set_option maxRecDepth 100000 in
theorem val_any (w : World) (v : Value) (l : List Ct) (d : Int) (h : RdG ctE w v l) (hn : l.length ≤ 9223372036854775807) :
    Calls Tryd.prog 22 #[v, .int .i64 d] w fun e w' => e = .returned (.int .u64 (vl l d)) ∧ Nx w w' := by
  have CL := Lib.hid (value_any w v l d h hn)
  clear h
  go_enter Tryd.func22, Tryd.ntmps22
  go_wp2_with fail
  refine CL.out.mono ?_
  rintro e w2 ⟨rfl, hn2⟩
  have N2 := Lib.hid hn2
  clear CL hn2
  go_wp2
  go_ret
  exact ⟨rfl, N2.out⟩
set_option maxRecDepth 100000 in
theorem bothValid_any (w : World) (v v2 : Value) (l o : List Ct) (h : RdG ctE w v l) (h2 : RdG ctE w v2 o) (hn : l.length ≤ 9223372036854775807) (hn2 : o.length ≤ 9223372036854775807) :
    Calls Tryd.prog 30 #[v, v2] w fun e w' => e = .returned (.bool (vld 0 l && vld 0 o)) ∧ Nx w w' := by
  have CL := Lib.hid (valid_any w v l h hn)
  have CM : Hid (∀ W, Nx w W → Calls Tryd.prog 35 #[v2] W fun e w' => e = .returned (.bool (vld 0 o)) ∧ Nx W w') := fun W hW => valid_any W v2 o (h2.nx hW) hn2
  generalize vld 0 l = b at *
  generalize vld 0 o = b2 at *
  clear h h2
  go_enter Tryd.func30, Tryd.ntmps30
  go_wp2_with fail
  refine CL.out.mono ?_
  rintro e w2 ⟨rfl, hn3⟩
  have N2 := Lib.hid hn3
  clear CL hn3
  cases b with
  | true =>
    go_wp2_with fail
    refine (CM.out w2 N2.out).mono ?_
    rintro e w3 ⟨rfl, hn4⟩
    have N3 := Lib.hid (N2.out.trans hn4)
    clear CM hn4
    go_wp2
    go_ret
    exact ⟨by simp, N3.out⟩
  | false =>
    go_wp2
    go_ret
    exact ⟨by simp, N2.out⟩
end Go.Proofs.YtlmfjalkgapcgaaDoor

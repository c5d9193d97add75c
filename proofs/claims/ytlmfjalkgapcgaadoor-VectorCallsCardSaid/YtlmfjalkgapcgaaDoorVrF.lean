/- The document's answers for package vector: Compare. -/
import Derived.Test.YtlmfjalkgapcgaaDoorVrE
import Derived.BigQuiet
namespace Go.Proofs.YtlmfjalkgapcgaaDoor
open Go.RowKit
set_option linter.unusedVariables false

attribute [local go_sem] Oper.semAt_some

/-- Is one array below the other somewhere, from 1 to k? -/
def lss (f g : Nat → Nat) : Nat → Bool
  | 0 => false
  | k + 1 => lss f g k || decide (f (k + 1) < g (k + 1))
theorem lss_iff {f g : Nat → Nat} {k : Nat} : lss f g k = true ↔ ∃ e, 1 ≤ e ∧ e ≤ k ∧ f e < g e := by
  induction k with
  | zero => simp [lss]; intro e h1 h2; omega
  | succ k ih =>
    simp only [lss, Bool.or_eq_true, ih, decide_eq_true_eq]
    constructor
    · rintro (⟨e, h1, h2, h3⟩ | h)
      · exact ⟨e, h1, by omega, h3⟩
      · exact ⟨k + 1, by omega, Nat.le_refl _, h⟩
    · rintro ⟨e, h1, h2, h3⟩
      by_cases q : e ≤ k
      · exact .inl ⟨e, h1, q, h3⟩
      · obtain rfl : e = k + 1 := by omega
        exact .inr h3
theorem lss_ag {l o : List Ct} (hl : vld 0 l = true) (ho : vld 0 o = true) {f g : Nat → Nat} (hf : Hs f l) (hg : Hs g o) : lss f g 16 = (ag l o).any lessP ∧ lss g f 16 = (ag l o).any moreP := by
  constructor
  · rw [Bool.eq_iff_iff, lss_iff, less_iff hl ho]
    constructor
    · rintro ⟨e, h1, h2, h3⟩
      rw [hf e h1 h2, hg e h1 h2] at h3
      exact ⟨_, h3⟩
    · rintro ⟨d, h⟩
      have := vl_in ho d (by omega)
      obtain ⟨n, rfl⟩ : ∃ n : Nat, d = n := ⟨d.toNat, by omega⟩
      exact ⟨n, by omega, by omega, by rw [hf n (by omega) (by omega), hg n (by omega) (by omega)]; exact h⟩
  · rw [Bool.eq_iff_iff, lss_iff, more_iff hl ho]
    constructor
    · rintro ⟨e, h1, h2, h3⟩
      rw [hf e h1 h2, hg e h1 h2] at h3
      exact ⟨_, h3⟩
    · rintro ⟨d, h⟩
      have := vl_in hl d (by omega)
      obtain ⟨n, rfl⟩ : ∃ n : Nat, d = n := ⟨d.toNat, by omega⟩
      exact ⟨n, by omega, by omega, by rw [hf n (by omega) (by omega), hg n (by omega) (by omega)]; exact h⟩
theorem vs_hs {l : List Ct} (h : vld 0 l = true) : Hs (vsF (fun _ => 0) l) l := fun e _ _ => vs_vl h e

/-- Two rows that are laid and stored. -/
structure Two (w W : World) (t : TypeId) (z a b : Array Value) : Prop where
  p1 : BlkIs ((W.alloc (.cells z t)).alloc (.cells z t)) W.heap.size t z
  p3 : BlkIs (((W.alloc (.cells z t)).alloc (.cells z t)).setRow W.heap.size a) (W.heap.size + 1) t z
  p4 : BlkIs ((((W.alloc (.cells z t)).alloc (.cells z t)).setRow W.heap.size a).setRow (W.heap.size + 1) b) W.heap.size t a
  p5 : BlkIs ((((W.alloc (.cells z t)).alloc (.cells z t)).setRow W.heap.size a).setRow (W.heap.size + 1) b) (W.heap.size + 1) t b
  p6 : Nx w ((((W.alloc (.cells z t)).alloc (.cells z t)).setRow W.heap.size a).setRow (W.heap.size + 1) b)
theorem two_laid {w W : World} (h : Nx w W) (t : TypeId) (z a b : Array Value) : Two w W t z a b := by
  have p1 : BlkIs ((W.alloc (.cells z t)).alloc (.cells z t)) W.heap.size t z := (BlkIs.new W t z).nx ((Nx.refl _).alloc _)
  have p2 : BlkIs ((W.alloc (.cells z t)).alloc (.cells z t)) (W.heap.size + 1) t z := by simpa using BlkIs.new (W.alloc (.cells z t)) t z
  have p3 : BlkIs (((W.alloc (.cells z t)).alloc (.cells z t)).setRow W.heap.size a) (W.heap.size + 1) t z := (setRow_other _ _ _ _ (by omega)).trans p2
  have q1 := blk_setRow p1 a
  have p4 : BlkIs ((((W.alloc (.cells z t)).alloc (.cells z t)).setRow W.heap.size a).setRow (W.heap.size + 1) b) W.heap.size t a := (setRow_other _ _ _ _ (by omega)).trans q1
  exact ⟨p1, p3, p4, blk_setRow p3 b, (((h.alloc _).alloc _).setRow _ _ h.size).setRow _ _ (by have := h.size; omega)⟩

set_option maxRecDepth 100000 in
set_option maxHeartbeats 2000000 in
theorem rcompare_any (w : World) (v v2 : Value) (l o : List Ct) (h : RdG ctE w v l) (h2 : RdG ctE w v2 o) (hn : l.length + o.length ≤ 100000000) :
    Calls Tryd.prog 24 #[v, v2] w fun e w' => e = .returned (.int .i64 (if vld 0 l && vld 0 o then cp l o else 0)) ∧ Nx w w' := by
  have C1 := Lib.hid (rcheck_any w v l h (by omega))
  have C2 : Hid (∀ W, Nx w W → Calls Tryd.prog 21 #[v2] W fun e w' => e = .returned (.int .i64 (if vld 0 o then 0 else 2)) ∧ Nx W w') := fun W hW => rcheck_any W v2 o (h2.nx hW) (by omega)
  have V1 : Hid (vld 0 l = true → ∀ W, Nx w W → Calls Tryd.prog 39 #[v] W fun e w' => e = .returned (.agg (arC (vsF (fun _ => 0) l))) ∧ Nx W w') := fun hv W hW => rvalues_any W v l (h.nx hW) hv (by omega)
  have V2 : Hid (vld 0 o = true → ∀ W, Nx w W → Calls Tryd.prog 39 #[v2] W fun e w' => e = .returned (.agg (arC (vsF (fun _ => 0) o))) ∧ Nx W w') := fun hv W hW => rvalues_any W v2 o (h2.nx hW) hv (by omega)
  have E : Hid (vld 0 l = true → vld 0 o = true → cp l o = cpOf (lss (vsF (fun _ => 0) l) (vsF (fun _ => 0) o) 16) (lss (vsF (fun _ => 0) o) (vsF (fun _ => 0) l) 16)) := fun hl ho => by
    have e := lss_ag hl ho (vs_hs hl) (vs_hs ho)
    rw [e.1, e.2]; rfl
  generalize vsF (fun _ => 0) l = F at *
  generalize vsF (fun _ => 0) o = G at *
  generalize cp l o = r at *
  generalize vld 0 l = b1 at *
  generalize vld 0 o = b2 at *
  clear h h2 hn
  go_enter Tryd.func24, Tryd.ntmps24
  go_wp2_with fail
  refine C1.out.mono ?_
  rintro e w1 ⟨rfl, hn1⟩
  have N1 := Lib.hid hn1
  clear C1 hn1
  cases b1 with
  | false =>
    go_wp2
    go_ret
    exact ⟨rfl, N1.out⟩
  | true =>
    go_wp2_with fail
    refine (C2.out w1 N1.out).mono ?_
    rintro e w2 ⟨rfl, hn2⟩
    have N2 := Lib.hid (N1.out.trans hn2)
    clear C2 hn2
    cases b2 with
    | false =>
      go_wp2
      go_ret
      exact ⟨rfl, N2.out⟩
    | true =>
      go_wp2_with fail
      refine (V1.out (by trivial) w2 N2.out).mono ?_
      rintro e w3 ⟨rfl, hn3⟩
      have N3 := Lib.hid (N2.out.trans hn3)
      clear V1 hn3
      go_wp2_with fail
      refine (V2.out (by trivial) w3 N3.out).mono ?_
      rintro e w4 ⟨rfl, hn4⟩
      have N4 := Lib.hid (N3.out.trans hn4)
      clear V2 hn4
      have TW := Lib.hid (two_laid N4.out 61 #[.int .u64 0, .int .u64 0, .int .u64 0, .int .u64 0, .int .u64 0, .int .u64 0, .int .u64 0, .int .u64 0, .int .u64 0, .int .u64 0, .int .u64 0, .int .u64 0, .int .u64 0, .int .u64 0, .int .u64 0, .int .u64 0, .int .u64 0] (arC F) (arC G))
      go_upto_region 4 with (first
        | (refine wpList_store_row rfl 61 (.tmp 5) (.tmp 19) rfl w4.heap.size (arC F) rfl rfl 61 _ TW.out.p1 (by rw [info17, arC_size]) (by rw [arC_size]; rfl) (arC_one _) ?_)
        | (refine wpList_store_row rfl 61 (.tmp 6) (.tmp 21) rfl (w4.heap.size + 1) (arC G) rfl rfl 61 _ TW.out.p3 (by rw [info17, arC_size]) (by rw [arC_size]; rfl) (arC_one _) ?_)
        | fail)
      have HB1 : Hid (BlkIs _ w4.heap.size 61 (arC F)) := TW.out.p4
      have HB2 : Hid (BlkIs _ (w4.heap.size + 1) 61 (arC G)) := TW.out.p5
      have HN : Hid (Nx w _) := TW.out.p6
      generalize World.setRow (World.setRow _ _ _) _ _ = U at *
      clear TW
      generalize w4.heap.size = B at *
      go_wp2
      go_loopw [7, 8, 9] (fun x7 x8 x wr => ∃ (d : Nat), x7 = .bool (lss F G d) ∧ x8 = .bool (lss G F d) ∧ x = .int .i64 ((d + 1 : Nat) : Int) ∧ d ≤ 16 ∧ Hid (Nx U wr)) (fun _ _ x _ => 17 - (intOf x).toNat)
      case atStart => exact ⟨0, rfl, rfl, rfl, by omega, Nx.refl _⟩
      case round =>
        obtain ⟨d, rfl, rfl, rfl, hd, hk⟩ := hrel
        by_cases hd2 : d < 16
        · have j2 : decide (((d + 1 : Nat) : Int) < 17) = true := by simp; omega
          have j3 : (0 : Int) ≤ ((d + 1 : Nat) : Int) := by omega
          have j4 : ((d + 1 : Nat) : Int) < 17 := by omega
          have jw : IntKind.i64.wrap (((d + 1 : Nat) : Int) + 1) = ((d + 1 + 1 : Nat) : Int) := by rw [IntWalk.i64_in _ (by omega)]; omega
          have c1 := (HB1.out.nx hk.out).cell (d + 1)
          rw [arC_at _ _ (by omega)] at c1
          have c2 := (HB2.out.nx hk.out).cell (d + 1)
          rw [arC_at _ _ (by omega)] at c2
          have L1 : Hid (lss F G (d + 1) = (lss F G d || decide (F (d + 1) < G (d + 1)))) := rfl
          have L2 : Hid (lss G F (d + 1) = (lss G F d || decide (G (d + 1) < F (d + 1)))) := rfl
          have DD : Hid (d + 1 ≤ 16) := by show _ ≤ _; omega
          generalize F (d + 1) = f0 at *
          generalize G (d + 1) = g0 at *
          generalize lss F G d = y1 at *
          generalize lss G F d = y2 at *
          clear hd hd2
          generalize hdd : d + 1 = D at *
          cases y1 <;> cases y2 <;> (
            go_wp2_with fail
            go_quiet (fail)
            have c3 : (wr.drewN nq).cell? ⟨B, D, none⟩ = some (.int .u64 f0) := c1
            have c4 : (wr.drewN nq).cell? ⟨B + 1, D, none⟩ = some (.int .u64 g0) := c2
            have hk2 : Hid (Nx U (wr.drewN nq)) := hk.out.drewN _
            clear c1 c2 hk
            generalize wr.drewN nq = V at *
            go_wp2_with fail
            go_quiet (fail)
            go_wp2
            go_roundw
            case rel => exact ⟨D, by rw [L1.out]; simp, by rw [L2.out]; simp, rfl, DD.out, hk2.out.drewN _⟩
            case measure => simp only [intOf, Int.toNat_natCast]; have := DD.out; omega)
        · obtain rfl : d = 16 := by omega
          have E2 : Hid (r = cpOf (lss F G 16) (lss G F 16)) := E.out (by trivial) (by trivial)
          have HF := Lib.hid (HN.out.trans hk.out)
          clear E hk
          generalize lss F G 16 = y1 at *
          generalize lss G F 16 = y2 at *
          cases y1 <;> cases y2 <;> (
            go_wp2
            go_ret
            exact ⟨by rw [E2.out]; rfl, HF.out⟩)
end Go.Proofs.YtlmfjalkgapcgaaDoor

/- The document's answers for package vector: Order. -/
import Derived.Test.YtlmfjalkgapcgaaDoorVrF
import Derived.Test.YtlmfjalkgapcgaaDoorVcSum
import Derived.BigQuiet
import Derived.Deep.RegionWith
namespace Go.Proofs.YtlmfjalkgapcgaaDoor
open Go.RowKit
set_option linter.unusedVariables false

attribute [local go_sem] Oper.semAt_some

/-- The sum of the values from 1 to k. -/
def pS (f : Nat → Nat) : Nat → Nat
  | 0 => 0
  | k + 1 => pS f k + f (k + 1)
theorem pS_upd (g : Nat → Nat) (k n : Nat) (hg : g k = 0) : ∀ K, pS (upd g k n) K = pS g K + if 1 ≤ k ∧ k ≤ K then n else 0
  | 0 => by simp [pS]; intro h1 h2; omega
  | K + 1 => by
    show pS (upd g k n) K + upd g k n (K + 1) = pS g K + g (K + 1) + _
    rw [pS_upd g k n hg K]
    unfold upd
    by_cases e : K + 1 = k
    · subst e
      rw [if_pos rfl, if_neg (by omega), if_pos (by omega), hg]
    · rw [if_neg e]
      by_cases q : 1 ≤ k ∧ k ≤ K
      · rw [if_pos q, if_pos (by omega)]; omega
      · rw [if_neg q, if_neg (by omega)]; omega
theorem pS_congr {f g : Nat → Nat} : ∀ {K : Nat}, (∀ e, 1 ≤ e → e ≤ K → f e = g e) → pS f K = pS g K
  | 0, _ => rfl
  | K + 1, h => by
    show pS f K + f (K + 1) = pS g K + g (K + 1)
    rw [pS_congr fun e h1 h2 => h e h1 (by omega), h (K + 1) (by omega) (Nat.le_refl _)]
theorem pS_zero : ∀ K, pS (fun _ => 0) K = 0
  | 0 => rfl
  | K + 1 => by show pS (fun _ => 0) K + 0 = 0; rw [pS_zero K]
theorem pS_vl {l : List Ct} : ∀ {a : Int}, 0 ≤ a → vld a l = true → pS (fun e => vl l (e : Int)) 16 = sm l := by
  induction l with
  | nil => intro a _ _; exact pS_zero 16
  | cons c l ih =>
    intro a ha h
    rw [vld_cons] at h
    have e : pS (fun e => vl (c :: l) (e : Int)) 16 = pS (upd (fun e => vl l (e : Int)) c.d.toNat c.n) 16 := pS_congr fun e h1 h2 => by
      show vl (c :: l) (e : Int) = upd _ _ _ e
      unfold upd
      by_cases q : c.d = (e : Int)
      · rw [vl_cons_eq q, if_pos (by omega)]
      · rw [vl_cons_ne q, if_neg (by omega)]
    rw [e, pS_upd _ _ _ (by show vl l _ = 0; exact vl_low h.2 _ (by omega)), ih (a := c.d) (by omega) h.2, if_pos (by omega)]
    show sm l + c.n = c.n + sm l
    omega
theorem pS_hs {l : List Ct} (h : vld 0 l = true) {f : Nat → Nat} (hf : Hs f l) : pS f 16 = sm l := by
  rw [← pS_vl (Int.le_refl 0) h]
  exact pS_congr hf
theorem pS_le {f : Nat → Nat} (hf : ∀ e, 1 ≤ e → f e < 18446744073709551616) : ∀ K, pS f K ≤ K * 18446744073709551616
  | 0 => Nat.le_refl _
  | K + 1 => by have := pS_le hf K; have := hf (K + 1) (by omega); show pS f K + f (K + 1) ≤ _; omega

/-! ### What the order is -/
theorem od_by_lt {l o : List Ct} (hl : vld 0 l = true) (ho : vld 0 o = true) (h : sm l < sm o) : od l o = -1 := (od_neg hl ho).2 (.inl h)
theorem od_by_gt {l o : List Ct} (hl : vld 0 l = true) (ho : vld 0 o = true) (h : sm o < sm l) : od l o = 1 := (od_pos hl ho).2 (.inl h)
theorem fst_of {l o : List Ct} (hl : vld 0 l = true) (ho : vld 0 o = true) {f g : Nat → Nat} (hf : Hs f l) (hg : Hs g o) {d : Nat} (hd : d < 16) (h : ∀ e, 1 ≤ e → e ≤ d → f e = g e) (hlt : f (d + 1) < g (d + 1)) : Fst l o :=
  ⟨((d + 1 : Nat) : Int), by rw [← hf (d + 1) (by omega) (by omega), ← hg (d + 1) (by omega) (by omega)]; exact hlt, fun e he => by
    by_cases q : 1 ≤ e
    · obtain ⟨n, rfl⟩ : ∃ n : Nat, e = n := ⟨e.toNat, by omega⟩
      rw [← hf n (by omega) (by omega), ← hg n (by omega) (by omega)]
      exact h n (by omega) (by omega)
    · rw [vl_out hl (by omega), vl_out ho (by omega)]⟩
theorem eq_of {l o : List Ct} (hl : vld 0 l = true) (ho : vld 0 o = true) {f g : Nat → Nat} (hf : Hs f l) (hg : Hs g o) (h : ∀ e, 1 ≤ e → e ≤ 16 → f e = g e) : l = o := by
  rw [← hf.md hl, ← hg.md ho]
  exact md_ext (md_vld g) fun e h1 h2 => by rw [md_vl g e h1 h2, h e h1 h2]

/-- What the sums' loop holds. -/
structure OrS (w W : World) (B B2 : Nat) (F G : Nat → Nat) (h0 h1 l0 l1 : Nat) : Prop where
  nx : Nx w W
  low : w.heap.size ≤ B
  gap : B + 1 < B2
  x : BlkIs W B 61 (arC F)
  y : BlkIs W (B + 1) 61 (arC G)
  h : BlkIs W B2 74 #[.int .u64 h0, .int .u64 h1]
  l : BlkIs W (B2 + 1) 74 #[.int .u64 l0, .int .u64 l1]
section
variable {w W : World} {B B2 : Nat} {F G : Nat → Nat} {h0 h1 l0 l1 : Nat}
theorem OrS.drew (s : OrS w W B B2 F G h0 h1 l0 l1) : OrS w W.drew B B2 F G h0 h1 l0 l1 := ⟨s.nx.drew, s.low, s.gap, s.x.drew, s.y.drew, s.h.drew, s.l.drew⟩
theorem OrS.setH (s : OrS w W B B2 F G h0 h1 l0 l1) (i : Nat) (v : Value) {a b : Nat} (e : (#[.int .u64 h0, .int .u64 h1] : Array Value).setIfInBounds i v = #[.int .u64 a, .int .u64 b]) : OrS w (W.setCell ⟨B2, i, none⟩ v) B B2 F G a b l0 l1 :=
  ⟨s.nx.set _ _ _ (by have := s.low; have := s.gap; omega), s.low, s.gap, s.x.chd (Chd.set W B2 i v) (by have := s.gap; omega), s.y.chd (Chd.set W B2 i v) (by have := s.gap; omega), by rw [← e]; exact s.h.set i v, s.l.chd (Chd.set W B2 i v) (by omega)⟩
theorem OrS.setL (s : OrS w W B B2 F G h0 h1 l0 l1) (i : Nat) (v : Value) {a b : Nat} (e : (#[.int .u64 l0, .int .u64 l1] : Array Value).setIfInBounds i v = #[.int .u64 a, .int .u64 b]) : OrS w (W.setCell ⟨B2 + 1, i, none⟩ v) B B2 F G h0 h1 a b :=
  ⟨s.nx.set _ _ _ (by have := s.low; have := s.gap; omega), s.low, s.gap, s.x.chd (Chd.set W (B2 + 1) i v) (by have := s.gap; omega), s.y.chd (Chd.set W (B2 + 1) i v) (by have := s.gap; omega), s.h.chd (Chd.set W (B2 + 1) i v) (by omega), by rw [← e]; exact s.l.set i v⟩
end

set_option maxRecDepth 100000 in
set_option maxHeartbeats 4000000 in
theorem rorder_any (w : World) (v v2 : Value) (l o : List Ct) (h : RdG ctE w v l) (h2 : RdG ctE w v2 o) (k : CtsOk l) (k2 : CtsOk o) (hn : l.length + o.length ≤ 100000000) :
    Calls Tryd.prog 25 #[v, v2] w fun e w' => e = .returned (.int .i64 (if vld 0 l && vld 0 o then od l o else 0)) ∧ Nx w w' := by
  have C1 := Lib.hid (rcheck_any w v l h (by omega))
  have C2 : Hid (∀ W, Nx w W → Calls Tryd.prog 21 #[v2] W fun e w' => e = .returned (.int .i64 (if vld 0 o then 0 else 2)) ∧ Nx W w') := fun W hW => rcheck_any W v2 o (h2.nx hW) (by omega)
  have V1 : Hid (vld 0 l = true → ∀ W, Nx w W → Calls Tryd.prog 39 #[v] W fun e w' => e = .returned (.agg (arC (vsF (fun _ => 0) l))) ∧ Nx W w') := fun hv W hW => rvalues_any W v l (h.nx hW) hv (by omega)
  have V2 : Hid (vld 0 o = true → ∀ W, Nx w W → Calls Tryd.prog 39 #[v2] W fun e w' => e = .returned (.agg (arC (vsF (fun _ => 0) o))) ∧ Nx W w') := fun hv W hW => rvalues_any W v2 o (h2.nx hW) hv (by omega)
  have X1 : Hid (vld 0 l = true → vld 0 o = true → Hs (vsF (fun _ => 0) l) l ∧ Hs (vsF (fun _ => 0) o) o ∧ (∀ e, vsF (fun _ => 0) l e < 18446744073709551616) ∧ (∀ e, vsF (fun _ => 0) o e < 18446744073709551616)) := fun hl ho =>
    ⟨vs_hs hl, vs_hs ho, fun e => by rw [vs_vl hl]; exact vl_small (fun c hc => by have := (k c hc).2.2; omega) (by omega), fun e => by rw [vs_vl ho]; exact vl_small (fun c hc => by have := (k2 c hc).2.2; omega) (by omega)⟩
  clear h h2 hn k k2
  cases b1 : vld 0 l with
  | false =>
    rw [b1] at C1
    clear C2 V1 V2 X1
    go_enter Tryd.func25, Tryd.ntmps25
    go_wp2_with fail
    refine C1.out.mono ?_
    rintro e w1 ⟨rfl, hn1⟩
    have N1 := Lib.hid hn1
    clear C1 hn1
    go_wp2
    go_ret
    exact ⟨rfl, N1.out⟩
  | true =>
  cases b2 : vld 0 o with
  | false =>
    rw [b1] at C1
    rw [b2] at C2
    clear V1 V2 X1
    go_enter Tryd.func25, Tryd.ntmps25
    go_wp2_with fail
    refine C1.out.mono ?_
    rintro e w1 ⟨rfl, hn1⟩
    have N1 := Lib.hid hn1
    clear C1 hn1
    go_wp2_with fail
    refine (C2.out w1 N1.out).mono ?_
    rintro e w2 ⟨rfl, hn2⟩
    have N2 := Lib.hid (N1.out.trans hn2)
    clear C2 hn2
    go_wp2
    go_ret
    exact ⟨rfl, N2.out⟩
  | true =>
    rw [b1] at C1
    rw [b2] at C2
    have V1 := Lib.hid (V1.out b1)
    have V2 := Lib.hid (V2.out b2)
    have X := Lib.hid (X1.out b1 b2)
    have VL := Lib.hid b1
    have VO := Lib.hid b2
    clear X1 b1 b2
    generalize vsF (fun _ => 0) l = F at *
    generalize vsF (fun _ => 0) o = G at *
    show Calls _ _ _ _ fun e w' => e = .returned (.int .i64 (od l o)) ∧ Nx w w'
    have FIN : Hid (∀ r : Int, od l o = r → od l o = r) := fun _ h => h
    generalize hr : od l o = r
    have HR := Lib.hid hr
    clear hr FIN
    go_enter Tryd.func25, Tryd.ntmps25
    go_wp2_with fail
    refine C1.out.mono ?_
    rintro e w1 ⟨rfl, hn1⟩
    have N1 := Lib.hid hn1
    clear C1 hn1
    go_wp2_with fail
    refine (C2.out w1 N1.out).mono ?_
    rintro e w2 ⟨rfl, hn2⟩
    have N2 := Lib.hid (N1.out.trans hn2)
    clear C2 hn2
    go_wp2_with fail
    refine (V1.out w2 N2.out).mono ?_
    rintro e w3 ⟨rfl, hn3⟩
    have N3 := Lib.hid (N2.out.trans hn3)
    clear V1 hn3
    go_wp2_with fail
    refine (V2.out w3 N3.out).mono ?_
    rintro e w4 ⟨rfl, hn4⟩
    have N4 := Lib.hid (N3.out.trans hn4)
    clear V2 hn4
    have TW := Lib.hid (two_laid N4.out 61 #[.int .u64 0, .int .u64 0, .int .u64 0, .int .u64 0, .int .u64 0, .int .u64 0, .int .u64 0, .int .u64 0, .int .u64 0, .int .u64 0, .int .u64 0, .int .u64 0, .int .u64 0, .int .u64 0, .int .u64 0, .int .u64 0, .int .u64 0] (arC F) (arC G))
    go_upto_region 4 with (first
      | (refine wpList_store_row rfl 61 (.tmp 5) (.tmp 21) rfl w4.heap.size (arC F) rfl rfl 61 _ TW.out.p1 (by rw [info17, arC_size]) (by rw [arC_size]; rfl) (arC_one _) ?_)
      | (refine wpList_store_row rfl 61 (.tmp 6) (.tmp 23) rfl (w4.heap.size + 1) (arC G) rfl rfl 61 _ TW.out.p3 (by rw [info17, arC_size]) (by rw [arC_size]; rfl) (arC_one _) ?_)
      | fail)
    have HB1 : Hid (BlkIs _ w4.heap.size 61 (arC F)) := TW.out.p4
    have HB2 : Hid (BlkIs _ (w4.heap.size + 1) 61 (arC G)) := TW.out.p5
    have HN : Hid (Nx w _) := TW.out.p6
    have LO : Hid (w.heap.size ≤ w4.heap.size) := N4.out.size
    generalize World.setRow (World.setRow _ _ _) _ _ = U at *
    clear TW N1 N2 N3 N4
    generalize w4.heap.size = B at *
    go_wp2
    have O0 : Hid (OrS w ((U.alloc (.cells #[.int .u64 0, .int .u64 0] 74)).alloc (.cells #[.int .u64 0, .int .u64 0] 74)) B U.heap.size F G 0 0 0 0) :=
      ⟨(HN.out.alloc _).alloc _, LO.out, HB2.out.lt, HB1.out.nx (((Nx.refl _).alloc _).alloc _), HB2.out.nx (((Nx.refl _).alloc _).alloc _), (BlkIs.new _ _ _).nx ((Nx.refl _).alloc _), by simpa using BlkIs.new (U.alloc (.cells #[.int .u64 0, .int .u64 0] 74)) 74 #[.int .u64 0, .int .u64 0]⟩
    generalize (U.alloc (.cells #[.int .u64 0, .int .u64 0] 74)).alloc (.cells #[.int .u64 0, .int .u64 0] 74) = U2 at *
    clear HN HB1 HB2
    generalize U.heap.size = B2 at *
    go_loopw [9] (fun x wr => ∃ (d : Nat), x = .int .i64 ((d + 1 : Nat) : Int) ∧ d ≤ 16 ∧ Hid (OrS w wr B B2 F G (pS F d / 18446744073709551616) (pS G d / 18446744073709551616) (pS F d % 18446744073709551616) (pS G d % 18446744073709551616))) (fun x _ => 17 - (intOf x).toNat)
    case atStart => exact ⟨0, rfl, by omega, by simpa [pS] using O0⟩
    case round =>
      obtain ⟨d, rfl, hd, hk⟩ := hrel
      by_cases hd2 : d < 16
      · have j2 : decide (((d + 1 : Nat) : Int) < 17) = true := by simp; omega
        have j3 : (0 : Int) ≤ ((d + 1 : Nat) : Int) := by omega
        have j4 : ((d + 1 : Nat) : Int) < 17 := by omega
        have jw : IntKind.i64.wrap (((d + 1 : Nat) : Int) + 1) = ((d + 1 + 1 : Nat) : Int) := by rw [IntWalk.i64_in _ (by omega)]; omega
        have b1 := pS_le (fun e _ => X.out.2.2.1 e) d
        have b2 := pS_le (fun e _ => X.out.2.2.2 e) d
        have bx := X.out.2.2.1 (d + 1)
        have by' := X.out.2.2.2 (d + 1)
        have s1 : pS F (d + 1) = pS F d + F (d + 1) := rfl
        have s2 : pS G (d + 1) = pS G d + G (d + 1) := rfl
        have HX : Hid ((arC F)[d + 1]? = some (.int .u64 (F (d + 1)))) := arC_at _ _ (by omega)
        have HY : Hid ((arC G)[d + 1]? = some (.int .u64 (G (d + 1)))) := arC_at _ _ (by omega)
        obtain ⟨h0, e1⟩ : ∃ n, pS F d / 18446744073709551616 = n := ⟨_, rfl⟩
        obtain ⟨h1, e2⟩ : ∃ n, pS G d / 18446744073709551616 = n := ⟨_, rfl⟩
        obtain ⟨l0, e3⟩ : ∃ n, pS F d % 18446744073709551616 = n := ⟨_, rfl⟩
        obtain ⟨l1, e4⟩ : ∃ n, pS G d % 18446744073709551616 = n := ⟨_, rfl⟩
        have q1 : pS F (d + 1) / 18446744073709551616 = h0 + (l0 + F (d + 1)) / 18446744073709551616 := by omega
        have q2 : pS G (d + 1) / 18446744073709551616 = h1 + (l1 + G (d + 1)) / 18446744073709551616 := by omega
        have q3 : pS F (d + 1) % 18446744073709551616 = (l0 + F (d + 1)) % 18446744073709551616 := by omega
        have q4 : pS G (d + 1) % 18446744073709551616 = (l1 + G (d + 1)) % 18446744073709551616 := by omega
        rw [e1, e2, e3, e4] at hk
        generalize F (d + 1) = x0 at *
        generalize G (d + 1) = y0 at *
        have R1 := fun W => run_add64 l0 x0 W
        have R2 : Hid (∀ W, _) := fun W => run_add64 l1 y0 W
        have z1 : h0 + (l0 + x0) / 18446744073709551616 < 18446744073709551616 := by omega
        have z2 : h1 + (l1 + y0) / 18446744073709551616 < 18446744073709551616 := by omega
        generalize (l0 + x0) / 18446744073709551616 = c0 at *
        generalize (l0 + x0) % 18446744073709551616 = m0 at *
        generalize hc1 : (l1 + y0) / 18446744073709551616 = c1 at *
        generalize hm1 : (l1 + y0) % 18446744073709551616 = m1 at *
        obtain ⟨a0, ha0⟩ : ∃ n, h0 + c0 = n := ⟨_, rfl⟩
        obtain ⟨a1, ha1⟩ : ∃ n, h1 + c1 = n := ⟨_, rfl⟩
        have w1' : IntKind.u64.wrap ((h0 : Int) + (c0 : Int)) = (a0 : Int) := by rw [IntWalk.u64_in _ (by omega)]; omega
        have w2' : IntKind.u64.wrap ((h1 : Int) + (c1 : Int)) = (a1 : Int) := by rw [IntWalk.u64_in _ (by omega)]; omega
        have W2 := Lib.hid w2'
        have QQ : Hid (pS F (d + 1) / 18446744073709551616 = a0 ∧ pS G (d + 1) / 18446744073709551616 = a1 ∧ pS F (d + 1) % 18446744073709551616 = m0 ∧ pS G (d + 1) % 18446744073709551616 = m1) := ⟨by omega, by omega, q3, q4⟩
        have DD : Hid (d + 1 ≤ 16) := by show _ ≤ _; omega
        clear b1 b2 bx by' s1 s2 e1 e2 e3 e4 q1 q2 q3 q4 z1 z2 w2' hc1 hm1 hd hd2 ha0 ha1
        have y1 := hk.out.x.cell (d + 1)
        rw [HX.out] at y1
        have y2 := hk.out.l.cell 0
        simp only [List.getElem?_toArray, List.getElem?_cons_zero] at y2
        have y3 := hk.out.l.frozen 0
        generalize hdd : d + 1 = D at *
        go_upto_region 10 with fail
        go_cut [10] from 28 to 57 (fun x10 wx => x10 = .int .u64 c0 ∧ Hid (OrS w wx B B2 F G h0 h1 m0 l1))
        case first =>
          go_wp2_with fail
          go_region_with (fail)
          all_goals go_wp2
          all_goals go_meet
          all_goals exact ⟨rfl, (hk.out.setL 0 _ rfl).drew⟩
        case rest =>
          obtain ⟨rfl, O1⟩ := hcut
          have v1 := O1.out.h.cell 0
          simp only [List.getElem?_toArray, List.getElem?_cons_zero] at v1
          have v2' := O1.out.h.frozen 0
          clear R1 y1 y2 y3 hk
          go_upto_region 11 with fail
          have O2 : Hid (OrS w (wc.setCell ⟨B2, 0, none⟩ (.int .u64 a0)) B B2 F G a0 h1 m0 l1) := O1.out.setH 0 _ rfl
          clear v1 v2' O1
          generalize wc.setCell ⟨B2, 0, none⟩ (.int .u64 a0) = W3 at *
          have R1 := R2.out
          have y1 := O2.out.y.cell D
          rw [HY.out] at y1
          have y2 := O2.out.l.cell 1
          simp only [List.getElem?_toArray, List.getElem?_cons_zero, List.getElem?_cons_succ] at y2
          have y3 := O2.out.l.frozen 1
          go_upto_region 12 with fail
          go_cut [10] from 28 to 57 (fun x10 wx => x10 = .int .u64 c1 ∧ Hid (OrS w wx B B2 F G a0 h1 m0 m1))
          case first =>
            go_wp2_with fail
            go_region_with (fail)
            all_goals go_wp2
            all_goals go_meet
            all_goals exact ⟨rfl, (O2.out.setL 1 _ rfl).drew⟩
          case rest =>
            obtain ⟨rfl, O3⟩ := hcut
            have v1 := O3.out.h.cell 1
            simp only [List.getElem?_toArray, List.getElem?_cons_zero, List.getElem?_cons_succ] at v1
            have v2' := O3.out.h.frozen 1
            have w2' := W2.out
            clear R1 y1 y2 y3 O2
            go_wp2
            go_roundw
            case rel =>
              have O4 := O3.out.setH 1 (.int .u64 a1) (a := a0) (b := a1) rfl
              exact ⟨D, rfl, DD.out, by rw [QQ.out.1, QQ.out.2.1, QQ.out.2.2.1, QQ.out.2.2.2]; exact O4⟩
            case measure => simp only [intOf, Int.toNat_natCast]; have := DD.out; omega
      · have e16 : d = 16 := by omega
        have S1 : pS F 16 = sm l := pS_hs VL.out X.out.1
        have S2 : pS G 16 = sm o := pS_hs VO.out X.out.2.1
        have j9 : decide (((d + 1 : Nat) : Int) < 17) = false := by simp; omega
        have j8 : ¬ ((d + 1 : Nat) : Int) < 17 := by omega
        rw [e16, S1, S2] at hk
        obtain ⟨h0, e1⟩ : ∃ n, sm l / 18446744073709551616 = n := ⟨_, rfl⟩
        obtain ⟨h1, e2⟩ : ∃ n, sm o / 18446744073709551616 = n := ⟨_, rfl⟩
        obtain ⟨l0, e3⟩ : ∃ n, sm l % 18446744073709551616 = n := ⟨_, rfl⟩
        obtain ⟨l1, e4⟩ : ∃ n, sm o % 18446744073709551616 = n := ⟨_, rfl⟩
        rw [e1, e2, e3, e4] at hk
        have ES : Hid (sm l = h0 * 18446744073709551616 + l0 ∧ sm o = h1 * 18446744073709551616 + l1 ∧ l0 < 18446744073709551616 ∧ l1 < 18446744073709551616) := ⟨by omega, by omega, by omega, by omega⟩
        clear S1 S2 e1 e2 e3 e4 hd hd2 e16
        generalize d + 1 = D9 at *
        have x1 := hk.out.h.cell 0
        have x2 := hk.out.h.cell 1
        have x3 := hk.out.l.cell 0
        have x4 := hk.out.l.cell 1
        simp only [List.getElem?_toArray, List.getElem?_cons_zero, List.getElem?_cons_succ] at x1 x2 x3 x4
        by_cases q0 : h0 = h1
        · by_cases q1 : l0 = l1
          · have g1 : ((h0 : Int) == (h1 : Int)) = true := by simp [q0]
            have g2 : ((l0 : Int) == (l1 : Int)) = true := by simp [q1]
            have EQ : Hid (sm l = sm o) := by have := ES.out; show _ = _; omega
            subst q0 q1
            clear ES
            go_wp2
            have OK := Lib.hid hk.out
            clear hk x1 x2 x3 x4 O0
            generalize wr = V0 at *
            go_loopw [11] (fun x wi => ∃ (d : Nat), x = .int .i64 ((d + 1 : Nat) : Int) ∧ d ≤ 16 ∧ Hid (Nx V0 wi ∧ ∀ e, 1 ≤ e → e ≤ d → F e = G e)) (fun x _ => 17 - (intOf x).toNat)
            case atStart => exact ⟨0, rfl, by omega, Nx.refl _, fun e h1 h2 => by omega⟩
            case round =>
              obtain ⟨d, rfl, hd, hj⟩ := hrel
              have OK2 : OrS _ _ _ _ _ _ _ _ _ _ := OK.out
              by_cases hd2 : d < 16
              · have j2 : decide (((d + 1 : Nat) : Int) < 17) = true := by simp; omega
                have j3 : (0 : Int) ≤ ((d + 1 : Nat) : Int) := by omega
                have j4 : ((d + 1 : Nat) : Int) < 17 := by omega
                have jw : IntKind.i64.wrap (((d + 1 : Nat) : Int) + 1) = ((d + 1 + 1 : Nat) : Int) := by rw [IntWalk.i64_in _ (by omega)]; omega
                have c1 := (OK2.x.nx hj.out.1).cell (d + 1)
                rw [arC_at _ _ (by omega)] at c1
                have c2 := (OK2.y.nx hj.out.1).cell (d + 1)
                rw [arC_at _ _ (by omega)] at c2
                have DD : Hid (d + 1 ≤ 16) := by show _ ≤ _; omega
                have FL : Hid (F (d + 1) < G (d + 1) → r = -1) := fun h => by rw [← HR.out]; exact (od_neg VL.out VO.out).2 (.inr ⟨EQ.out, fst_of VL.out VO.out X.out.1 X.out.2.1 hd2 hj.out.2 h⟩)
                have GL : Hid (G (d + 1) < F (d + 1) → r = 1) := fun h => by rw [← HR.out]; exact (od_pos VL.out VO.out).2 (.inr ⟨EQ.out.symm, fst_of VO.out VL.out X.out.2.1 X.out.1 hd2 (fun e h1 h2 => (hj.out.2 e h1 h2).symm) h⟩)
                have EL : Hid (F (d + 1) = G (d + 1) → ∀ e, 1 ≤ e → e ≤ d + 1 → F e = G e) := fun h e h1 h2 => by
                  by_cases q : e = d + 1
                  · rw [q]; exact h
                  · exact hj.out.2 e h1 (by omega)
                have NW : Hid (Nx w wr) := OK2.nx.trans hj.out.1
                have NU : Hid (Nx V0 wr) := hj.out.1
                generalize F (d + 1) = f0 at *
                generalize G (d + 1) = g0 at *
                clear hj hd hd2 OK2
                generalize hdd : d + 1 = D at *
                cases t1 : decide ((f0 : Int) < (g0 : Int)) with
                | true =>
                  have p1 : f0 < g0 := by simpa using t1
                  have p2 : (f0 : Int) < (g0 : Int) := by omega
                  have RR : Hid (r = -1) := FL.out (by simpa using t1)
                  go_wp2_with fail
                  go_quiet (fail)
                  go_wp2
                  go_ret
                  exact ⟨by rw [RR.out]; rfl, NW.out.drewN _⟩
                | false =>
                have p1 : ¬ f0 < g0 := by simpa using t1
                have p2 : ¬ (f0 : Int) < (g0 : Int) := by omega
                cases t2 : decide ((g0 : Int) < (f0 : Int)) with
                | true =>
                  have p3 : g0 < f0 := by simpa using t2
                  have p4 : (g0 : Int) < (f0 : Int) := by omega
                  have RR : Hid (r = 1) := GL.out (by simpa using t2)
                  go_wp2_with fail
                  go_quiet (fail)
                  have c3 : (wr.drewN nq).cell? ⟨B, D, none⟩ = some (.int .u64 f0) := c1
                  have c4 : (wr.drewN nq).cell? ⟨B + 1, D, none⟩ = some (.int .u64 g0) := c2
                  have NX : Hid (Nx w (wr.drewN nq)) := NW.out.drewN _
                  clear c1 c2 NW
                  generalize wr.drewN nq = V at *
                  go_wp2_with fail
                  go_quiet (fail)
                  go_wp2
                  go_ret
                  exact ⟨by rw [RR.out]; rfl, NX.out.drewN _⟩
                | false =>
                  have p3 : ¬ g0 < f0 := by simpa using t2
                  have p4 : ¬ (g0 : Int) < (f0 : Int) := by omega
                  have RR := Lib.hid (EL.out (by simp at t1 t2; omega))
                  go_wp2_with fail
                  go_quiet (fail)
                  have c3 : (wr.drewN nq).cell? ⟨B, D, none⟩ = some (.int .u64 f0) := c1
                  have c4 : (wr.drewN nq).cell? ⟨B + 1, D, none⟩ = some (.int .u64 g0) := c2
                  have NX : Hid (Nx w (wr.drewN nq)) := NW.out.drewN _
                  have N0 : Hid (Nx V0 (wr.drewN nq)) := NU.out.drewN _
                  clear c1 c2 NW NU
                  generalize wr.drewN nq = V at *
                  go_wp2_with fail
                  go_quiet (fail)
                  go_wp2
                  go_roundw
                  case rel => exact ⟨D, rfl, DD.out, N0.out.drewN _, RR.out⟩
                  case measure => simp only [intOf, Int.toNat_natCast]; have := DD.out; omega
              · obtain rfl : d = 16 := by omega
                have RR : Hid (r = 0) := by
                  rw [← HR.out]
                  exact (od_0 VL.out VO.out).2 (eq_of VL.out VO.out X.out.1 X.out.2.1 hj.out.2)
                have NW : Hid (Nx w wr) := OK2.nx.trans hj.out.1
                clear hj OK2 hd hd2
                go_wp2
                go_ret
                exact ⟨by rw [RR.out]; rfl, NW.out⟩
          · have g1 : ((h0 : Int) == (h1 : Int)) = true := by simp [q0]
            have g2 : ((l0 : Int) == (l1 : Int)) = false := by simp; omega
            subst q0
            clear O0
            cases t1 : decide ((l0 : Int) < (l1 : Int)) with
            | true =>
              have RR : Hid (r = -1) := by rw [← HR.out]; exact od_by_lt VL.out VO.out (by have := ES.out; simp at t1; omega)
              clear ES q1
              go_wp2
              all_goals go_ret
              all_goals first | exact ⟨by rw [RR.out]; rfl, hk.out.nx⟩ | (exfalso; simp at t1; omega)
            | false =>
              have RR : Hid (r = 1) := by rw [← HR.out]; exact od_by_gt VL.out VO.out (by have := ES.out; simp at t1; omega)
              clear ES q1
              go_wp2
              all_goals go_ret
              all_goals first | exact ⟨by rw [RR.out]; rfl, hk.out.nx⟩ | (exfalso; simp at t1; omega)
        · have g1 : ((h0 : Int) == (h1 : Int)) = false := by simp; omega
          clear O0
          cases t1 : decide ((h0 : Int) < (h1 : Int)) with
          | true =>
            have RR : Hid (r = -1) := by rw [← HR.out]; exact od_by_lt VL.out VO.out (by have := ES.out; simp at t1; omega)
            clear ES q0
            go_wp2
            all_goals go_ret
            all_goals first | exact ⟨by rw [RR.out]; rfl, hk.out.nx⟩ | (exfalso; simp at t1; omega)
          | false =>
            have RR : Hid (r = 1) := by rw [← HR.out]; exact od_by_gt VL.out VO.out (by have := ES.out; simp at t1; omega)
            clear ES q0
            go_wp2
            all_goals go_ret
            all_goals first | exact ⟨by rw [RR.out]; rfl, hk.out.nx⟩ | (exfalso; simp at t1; omega)
end Go.Proofs.YtlmfjalkgapcgaaDoor

/- Package vector: sums of values in two words, and how they compare. -/
import Derived.Test.YtlmfjalkgapcgaaDoorVcAg
namespace Go.Proofs.YtlmfjalkgapcgaaDoor
open Go.RowKit
set_option linter.unusedVariables false

attribute [local go_sem] Oper.semAt_some

theorem run_add64 (x y : Nat) (w : World) : (callFunc 50 #[.int .u64 x, .int .u64 y, .int .u64 0]).run Tryd.prog w =
    .ok (.value (.tuple #[.int .u64 (((x + y) % 18446744073709551616 : Nat) : Int), .int .u64 (((x + y) / 18446744073709551616 : Nat) : Int)])) w := rfl

set_option maxRecDepth 100000 in
theorem isNaN_any (w : World) (a : Nat) : Calls Tryd.prog 68 #[.int .u64 a] w fun e w' => e = .returned (.bool false) ∧ w = w' := by
  have e : ((a : Int) == (a : Int)) = true := by simp
  go_enter Tryd.func68, Tryd.ntmps68
  go_wp2
  go_ret
  exact ⟨by first | rfl | simp, rfl⟩
set_option maxRecDepth 100000 in
theorem cmp_any (w : World) (a b : Nat) : Calls Tryd.prog 53 #[.int .u64 a, .int .u64 b] w fun e w' => e = .returned (.int .i64 (cmpN a b)) ∧ Nx w w' := by
  have C1 := Lib.hid (isNaN_any w a)
  have C2 := Lib.hid (isNaN_any w b)
  have E : Hid (cmpN a b = if a < b then -1 else if b < a then 1 else 0) := rfl
  generalize cmpN a b = r at *
  cases d1 : decide (a < b) with
  | true =>
    have d1b : decide ((a : Int) < (b : Int)) = true := by simpa using d1
    have HE : Hid (r = -1) := by rw [E.out, if_pos (by simpa using d1)]; rfl
    clear E
    go_enter Tryd.func53, Tryd.ntmps53
    go_wp2_with fail
    refine C1.out.mono ?_
    rintro e w' ⟨rfl, rfl⟩
    go_wp2_with fail
    refine C2.out.mono ?_
    rintro e w' ⟨rfl, rfl⟩
    clear C1 C2
    go_wp2
    go_ret
    exact ⟨by rw [HE.out]; rfl, Nx.refl _⟩
  | false =>
    have d1b : decide ((a : Int) < (b : Int)) = false := by simpa using d1
    cases d2 : decide (b < a) with
    | true =>
      have d2b : decide ((b : Int) < (a : Int)) = true := by simpa using d2
      have HE : Hid (r = 1) := by rw [E.out, if_neg (by simpa using d1), if_pos (by simpa using d2)]; rfl
      clear E
      go_enter Tryd.func53, Tryd.ntmps53
      go_wp2_with fail
      refine C1.out.mono ?_
      rintro e w' ⟨rfl, rfl⟩
      go_wp2_with fail
      refine C2.out.mono ?_
      rintro e w' ⟨rfl, rfl⟩
      clear C1 C2
      go_wp2
      go_ret
      exact ⟨by rw [HE.out]; rfl, Nx.refl _⟩
    | false =>
      have d2b : decide ((b : Int) < (a : Int)) = false := by simpa using d2
      have HE : Hid (r = 0) := by rw [E.out, if_neg (by simpa using d1), if_neg (by simpa using d2)]; rfl
      clear E
      go_enter Tryd.func53, Tryd.ntmps53
      go_wp2_with fail
      refine C1.out.mono ?_
      rintro e w' ⟨rfl, rfl⟩
      go_wp2_with fail
      refine C2.out.mono ?_
      rintro e w' ⟨rfl, rfl⟩
      clear C1 C2
      go_wp2
      go_ret
      exact ⟨by rw [HE.out]; rfl, Nx.refl _⟩

/-- A sum in two words. -/
def sumC (s : Nat) : Array Value := #[.int .u64 ((s / 18446744073709551616 : Nat) : Int), .int .u64 ((s % 18446744073709551616 : Nat) : Int)]
def sumV (s : Nat) : Value := .agg #[.int .u64 ((s / 18446744073709551616 : Nat) : Int), .int .u64 ((s % 18446744073709551616 : Nat) : Int)]
set_option maxRecDepth 100000 in
theorem plus_any (w : World) (s v : Nat) (hs : s < 170141183460469231731687303715884105728) (hv : v < 18446744073709551616) :
    Calls Tryd.prog 52 #[sumV s, .int .u64 v] w fun e w' => e = .returned (sumV (s + v)) ∧ Nx w w' := by
  obtain ⟨h, hh⟩ : ∃ h, s / 18446744073709551616 = h := ⟨_, rfl⟩
  obtain ⟨l, hl⟩ : ∃ l, s % 18446744073709551616 = l := ⟨_, rfl⟩
  have R := fun W => run_add64 l v W
  have e1 : (s + v) / 18446744073709551616 = h + (l + v) / 18446744073709551616 := by omega
  have e2 : (s + v) % 18446744073709551616 = (l + v) % 18446744073709551616 := by omega
  have b1 : h + (l + v) / 18446744073709551616 < 18446744073709551616 := by omega
  unfold sumV
  rw [hh, hl, e1, e2]
  generalize (l + v) / 18446744073709551616 = c at *
  generalize (l + v) % 18446744073709551616 = lo at *
  have hw : IntKind.u64.wrap ((h : Int) + (c : Int)) = ((h + c : Nat) : Int) := by rw [IntWalk.u64_in _ (by omega)]; omega
  obtain ⟨W, hW⟩ : ∃ W, (w.alloc (.cells #[.int .u64 (h : Int), .int .u64 (l : Int)] 53)).alloc (.cells #[.int .u64 0, .int .u64 0] 53) = W := ⟨_, rfl⟩
  have n1 : Nx w W := by rw [← hW]; exact ((Nx.refl w).alloc _).alloc _
  have b0 : BlkIs W w.heap.size 53 #[.int .u64 (h : Int), .int .u64 (l : Int)] := by rw [← hW]; exact (BlkIs.new w _ _).nx ((Nx.refl _).alloc _)
  have b4 : BlkIs W (w.heap.size + 1) 53 #[.int .u64 0, .int .u64 0] := by
    rw [← hW]
    have := BlkIs.new (w.alloc (.cells #[.int .u64 (h : Int), .int .u64 (l : Int)] 53)) 53 #[.int .u64 0, .int .u64 0]
    rwa [World.size_alloc] at this
  have c0 : W.cell? ⟨w.heap.size, 0, none⟩ = some (.int .u64 (h : Int)) := by rw [b0.cell]; rfl
  have c1 : W.cell? ⟨w.heap.size, 1, none⟩ = some (.int .u64 (l : Int)) := by rw [b0.cell]; rfl
  have c4 : W.cell? ⟨w.heap.size + 1, 0, none⟩ = some (.int .u64 0) := by rw [b4.cell]; rfl
  have c5 : W.cell? ⟨w.heap.size + 1, 1, none⟩ = some (.int .u64 0) := by rw [b4.cell]; rfl
  have f4 := b4.frozen 0
  have f5 := b4.frozen 1
  have FIN : Hid (BlkIs ((W.setCell ⟨w.heap.size + 1, 0, none⟩ (.int .u64 ((h : Int) + (c : Int)))).setCell ⟨w.heap.size + 1, 1, none⟩ (.int .u64 (lo : Int))) (w.heap.size + 1) 53 #[.int .u64 ((h : Int) + (c : Int)), .int .u64 (lo : Int)] ∧
      Nx w ((W.setCell ⟨w.heap.size + 1, 0, none⟩ (.int .u64 ((h : Int) + (c : Int)))).setCell ⟨w.heap.size + 1, 1, none⟩ (.int .u64 (lo : Int)))) :=
    ⟨(b4.set 0 _).set 1 _, (n1.set _ _ _ (by omega)).set _ _ _ (by omega)⟩
  clear hh hl e1 e2 b1 hs hv n1 b0 b4
  go_enter Tryd.func52, Tryd.ntmps52
  go_wp2
  refine bodyPost_ret (results_cell_row rfl _ _ (w.heap.size + 1) 53 #[.int .u64 ((h : Int) + (c : Int)), .int .u64 (lo : Int)] (0, 0) _ rfl FIN.out.1 Tryd.underlying53 rfl (by kernel_rfl)) rfl ?_
  exact ⟨rfl, FIN.out.2⟩

set_option maxRecDepth 100000 in
theorem sumCompare_any (w : World) (s t : Nat) (hs : s < 170141183460469231731687303715884105728) (ht : t < 170141183460469231731687303715884105728) :
    Calls Tryd.prog 33 #[sumV s, sumV t] w fun e w' => e = .returned (.int .i64 (cmpN s t)) ∧ Nx w w' := by
  obtain ⟨h, hh⟩ : ∃ h, s / 18446744073709551616 = h := ⟨_, rfl⟩
  obtain ⟨l, hl⟩ : ∃ l, s % 18446744073709551616 = l := ⟨_, rfl⟩
  obtain ⟨g, hg⟩ : ∃ h, t / 18446744073709551616 = h := ⟨_, rfl⟩
  obtain ⟨k, hk⟩ : ∃ l, t % 18446744073709551616 = l := ⟨_, rfl⟩
  have E : Hid (cmpN s t = if cmpN h g ≠ 0 then cmpN h g else cmpN l k) := by
    show cmpN s t = if cmpN h g ≠ 0 then cmpN h g else cmpN l k
    unfold cmpN
    rcases Nat.lt_trichotomy h g with q | q | q
    · have : s < t := by omega
      simp [q, this]
    · subst q
      have e1 : s < t ↔ l < k := by omega
      have e2 : t < s ↔ k < l := by omega
      simp [e1, e2]
    · have q1 : ¬ h < g := by omega
      have q2 : ¬ s < t := by omega
      have q3 : t < s := by omega
      simp [q, q1, q2, q3]
  unfold sumV
  rw [hh, hl, hg, hk]
  have C1 := Lib.hid (fun W => cmp_any W h g)
  have C2 := Lib.hid (fun W => cmp_any W l k)
  generalize cmpN s t = r at *
  generalize cmpN h g = r1 at *
  generalize cmpN l k = r2 at *
  clear hh hl hg hk hs ht
  obtain ⟨W, hW⟩ : ∃ W, (w.alloc (.cells #[.int .u64 (h : Int), .int .u64 (l : Int)] 53)).alloc (.cells #[.int .u64 (g : Int), .int .u64 (k : Int)] 53) = W := ⟨_, rfl⟩
  have n1 : Nx w W := by rw [← hW]; exact ((Nx.refl w).alloc _).alloc _
  have b0 : BlkIs W w.heap.size 53 #[.int .u64 (h : Int), .int .u64 (l : Int)] := by rw [← hW]; exact (BlkIs.new w _ _).nx ((Nx.refl _).alloc _)
  have b1 : BlkIs W (w.heap.size + 1) 53 #[.int .u64 (g : Int), .int .u64 (k : Int)] := by
    rw [← hW]
    have := BlkIs.new (w.alloc (.cells #[.int .u64 (h : Int), .int .u64 (l : Int)] 53)) 53 #[.int .u64 (g : Int), .int .u64 (k : Int)]
    rwa [World.size_alloc] at this
  have c0 : W.cell? ⟨w.heap.size, 0, none⟩ = some (.int .u64 (h : Int)) := by rw [b0.cell]; rfl
  have c1 : W.cell? ⟨w.heap.size + 1, 0, none⟩ = some (.int .u64 (g : Int)) := by rw [b1.cell]; rfl
  have N1 := Lib.hid n1
  have B : Hid (∀ V, Nx W V → V.cell? ⟨w.heap.size, 1, none⟩ = some (.int .u64 (l : Int)) ∧ V.cell? ⟨w.heap.size + 1, 1, none⟩ = some (.int .u64 (k : Int))) := fun V hV => ⟨by rw [(b0.nx hV).cell]; rfl, by rw [(b1.nx hV).cell]; rfl⟩
  clear n1 b0 b1
  go_enter Tryd.func33, Tryd.ntmps33
  go_wp2_with fail
  refine (C1.out _).mono ?_
  rintro e w2 ⟨rfl, hn2⟩
  obtain ⟨d0, d1⟩ := B.out w2 hn2
  have N2 := Lib.hid (N1.out.trans hn2)
  clear hn2 C1 c0 c1
  cases z : (r1 == 0) with
  | true =>
    have HE : Hid (r = r2) := by have := E.out; rw [if_neg (by simpa using z)] at this; exact this
    clear E
    go_wp2_with fail
    refine (C2.out _).mono ?_
    rintro e w3 ⟨rfl, hn3⟩
    have N3 := Lib.hid (N2.out.trans hn3)
    clear hn3 C2
    go_wp2
    go_ret
    exact ⟨by rw [HE.out]; rfl, N3.out⟩
  | false =>
    have HE : Hid (r = r1) := by have := E.out; rw [if_pos (by simpa using z)] at this; exact this
    clear E
    go_wp2
    go_ret
    exact ⟨by rw [HE.out]; rfl, N2.out⟩

theorem sm_drop {l : List Ct} {i : Nat} (h : i < l.length) : sm (l.drop i) = l[i].n + sm (l.drop (i + 1)) := by
  rw [List.drop_eq_getElem_cons h]; rfl
theorem sm_take {l : List Ct} {i : Nat} (h : i < l.length) : sm (l.take (i + 1)) = sm (l.take i) + (l[i]'h).n := by
  induction l generalizing i with
  | nil => cases h
  | cons c l ih =>
    cases i with
    | zero => show c.n + sm [] = sm [] + c.n; simp [sm]
    | succ i =>
      have h2 : i < l.length := by simpa using h
      show c.n + sm (l.take (i + 1)) = c.n + sm (l.take i) + (l[i]'h2).n
      rw [ih h2]; omega
theorem sm_bound {l : List Ct} (h : CtsOk l) : sm l ≤ l.length * 18446744073709551615 := by
  induction l with
  | nil => simp [sm]
  | cons c l ih =>
    have h1 := h c (by simp)
    have h2 := ih fun x hx => h x (by simp [hx])
    have h3 : c.n ≤ 18446744073709551615 := h1.2.2
    show c.n + sm l ≤ (l.length + 1) * 18446744073709551615
    omega
theorem CtsOk.take {l : List Ct} (h : CtsOk l) (i : Nat) : CtsOk (l.take i) := fun c hc => h c (List.mem_of_mem_take hc)
set_option maxRecDepth 100000 in
set_option maxHeartbeats 1000000 in
theorem sum_any (w : World) (v : Value) (l : List Ct) (h : RdG ctE w v l) (hk : CtsOk l) (hn : l.length ≤ 100000000) :
    Calls Tryd.prog 32 #[v] w fun e w' => e = .returned (sumV (sm l)) ∧ Nx w w' := by
  obtain ⟨A, c, rfl⟩ := h.form
  have HA := Lib.hid h
  have HK := Lib.hid hk
  clear h hk
  obtain ⟨W, hW⟩ : ∃ W, (w.alloc (.cells #[.int .u64 0, .int .u64 0] 53)).alloc (.cells #[.int .u64 0, .int .u64 0] 53) = W := ⟨_, rfl⟩
  have n1 : Nx w W := by rw [← hW]; exact ((Nx.refl w).alloc _).alloc _
  have b0 : BlkIs W w.heap.size 53 #[.int .u64 0, .int .u64 0] := by rw [← hW]; exact (BlkIs.new w _ _).nx ((Nx.refl _).alloc _)
  have b1 : BlkIs W (w.heap.size + 1) 53 #[.int .u64 0, .int .u64 0] := by
    rw [← hW]
    have := BlkIs.new (w.alloc (.cells #[.int .u64 0, .int .u64 0] 53)) 53 #[.int .u64 0, .int .u64 0]
    rwa [World.size_alloc] at this
  have ST : Hid (Nx w W ∧ BlkIs W w.heap.size 53 #[.int .u64 0, .int .u64 0] ∧ BlkIs W (w.heap.size + 1) 53 (sumC (sm (l.take 0)))) := ⟨n1, b0, by simpa [sumC, sm] using b1⟩
  clear n1 b0 b1
  go_enter Tryd.func32, Tryd.ntmps32
  go_wp2
  generalize hg : w.heap.size = g at *
  go_loopw [8] (fun x wr => ∃ i : Nat, x = .int .i64 i ∧ i ≤ l.length ∧ Hid (Nx w wr ∧ BlkIs wr g 53 #[.int .u64 0, .int .u64 0] ∧ BlkIs wr (g + 1) 53 (sumC (sm (l.take i))))) (fun x _ => l.length - (intOf x).toNat)
  case atStart => exact ⟨0, rfl, Nat.zero_le _, ST.out⟩
  case round =>
    obtain ⟨i, rfl, hi, hh⟩ := hrel
    obtain ⟨hnx, hb0, hb1⟩ := hh.out
    by_cases hlt : i < l.length
    · have e2 : decide ((i : Int) < (l.length : Int)) = true := by simpa using hlt
      have e2b : decide (i < l.length) = true := by simpa using hlt
      have e3 : (0 : Int) ≤ (i : Int) := by omega
      have e4 : (i : Int) < (l.length : Int) := by omega
      obtain ⟨b, o, rfl, x0, x1⟩ := ct_cells (HA.out.nx hnx) i hlt
      have hw : IntKind.i64.wrap ((i : Int) + 1) = ((i + 1 : Nat) : Int) := by rw [IntWalk.i64_in _ (by omega)]; omega
      have HL := Lib.hid hlt
      have hst := sm_take hlt
      have hq : l[i].n < 18446744073709551616 := by have := (HK.out l[i] (List.getElem_mem hlt)).2.2; omega
      have hs := sm_bound (HK.out.take i)
      rw [List.length_take] at hs
      obtain ⟨W1, hW1⟩ : ∃ W, wr.alloc (.cells #[.int .i64 l[i].d, .int .u64 l[i].n] 29) = W := ⟨_, rfl⟩
      have zb : BlkIs W1 wr.heap.size 29 #[.int .i64 l[i].d, .int .u64 l[i].n] := by rw [← hW1]; exact box_ct wr l[i]
      have z1 : W1.cell? ⟨wr.heap.size, 1, none⟩ = some (.int .u64 l[i].n) := by rw [zb.cell]; rfl
      clear zb
      generalize l[i] = q at *
      generalize hs1 : sm (l.take i) = s at *
      generalize hs2 : sm (l.take (i + 1)) = s2 at *
      subst hst
      have HS2 := Lib.hid hs2
      have nn : Nx wr W1 := by rw [← hW1]; exact (Nx.refl _).alloc _
      have PL := Lib.hid (plus_any W1 s q.n (by omega) hq)
      have BB : Hid (Nx w W1 ∧ BlkIs W1 g 53 #[.int .u64 0, .int .u64 0] ∧ BlkIs W1 (g + 1) 53 (sumC s)) := ⟨hnx.trans nn, hb0.nx nn, hb1.nx nn⟩
      have HG := Lib.hid hg
      unfold sumV at PL
      have FIN : Hid (∀ V, Nx W1 V → V.cell? ⟨g + 1, 0, none⟩ = some (.int .u64 ((s / 18446744073709551616 : Nat) : Int)) ∧ V.cell? ⟨g + 1, 1, none⟩ = some (.int .u64 ((s % 18446744073709551616 : Nat) : Int)) ∧ V.frozen? ⟨g + 1, 0, none⟩ = false ∧ V.frozen? ⟨g + 1, 1, none⟩ = false ∧
          ∀ h k : Int, h = (((s + q.n) / 18446744073709551616 : Nat) : Int) → k = (((s + q.n) % 18446744073709551616 : Nat) : Int) → Nx w ((V.setCell ⟨g + 1, 0, none⟩ (.int .u64 h)).setCell ⟨g + 1, 1, none⟩ (.int .u64 k)) ∧ BlkIs ((V.setCell ⟨g + 1, 0, none⟩ (.int .u64 h)).setCell ⟨g + 1, 1, none⟩ (.int .u64 k)) g 53 #[.int .u64 0, .int .u64 0] ∧
          BlkIs ((V.setCell ⟨g + 1, 0, none⟩ (.int .u64 h)).setCell ⟨g + 1, 1, none⟩ (.int .u64 k)) (g + 1) 53 (sumC (s + q.n))) := fun V hV => by
        have b2 := BB.out.2.2.nx hV
        have b1 := BB.out.2.1.nx hV
        have n1 := BB.out.1.trans hV
        have hg := HG.out
        refine ⟨by rw [b2.cell]; rfl, by rw [b2.cell]; rfl, b2.frozen 0, b2.frozen 1, ?_⟩
        rintro h k rfl rfl
        exact ⟨(n1.set _ _ _ (by omega)).set _ _ _ (by omega), ((b1.chd (Chd.set _ _ _ _) (by omega)).chd (Chd.set _ _ _ _) (by omega)), (b2.set 0 _).set 1 _⟩
      obtain ⟨k0, k1, k2, k3, k4⟩ := FIN.out W1 (Nx.refl _)
      generalize s / 18446744073709551616 = sh at *
      generalize s % 18446744073709551616 = sl at *
      generalize hq1 : (s + q.n) / 18446744073709551616 = th at *
      generalize hq2 : (s + q.n) % 18446744073709551616 = tl at *
      clear hh hnx hb0 hb1 hs1 hs2 hg k4 nn hs hq hlt
      go_wp2_with fail
      refine PL.out.mono ?_
      rintro e w2 ⟨rfl, hn2⟩
      obtain ⟨m0, m1, m2, m3, m4⟩ := FIN.out w2 hn2
      have M4 := Lib.hid (m4 _ _ rfl rfl)
      clear PL hn2 k0 k1 k2 k3 m4
      go_wp2
      go_roundw
      case rel => exact ⟨i + 1, rfl, HL.out, by rw [HS2.out]; exact M4.out⟩
      case measure => simp only [intOf, Int.toNat_natCast]; have := HL.out; omega
    · have e2 : decide ((i : Int) < (l.length : Int)) = false := by simpa using hlt
      have e2b : decide (i < l.length) = false := by simpa using hlt
      rw [List.take_of_length_le (by omega)] at hb1
      generalize hsl : sm l = s at *
      have HSL := Lib.hid hsl
      have b0 := hb0.cell 0
      have k0 : wr.cell? ⟨g + 1, 0, none⟩ = some (.int .u64 ((s / 18446744073709551616 : Nat) : Int)) := by rw [hb1.cell]; rfl
      have k1 : wr.cell? ⟨g + 1, 1, none⟩ = some (.int .u64 ((s % 18446744073709551616 : Nat) : Int)) := by rw [hb1.cell]; rfl
      have g0 : wr.cell? ⟨g, 0, none⟩ = some (.int .u64 0) := by rw [hb0.cell]; rfl
      have g1 : wr.cell? ⟨g, 1, none⟩ = some (.int .u64 0) := by rw [hb0.cell]; rfl
      have f0 := hb0.frozen 0
      have f1 := hb0.frozen 1
      have hlg : w.heap.size ≤ g := by omega
      have HSV : Hid (sumV s = .agg #[.int .u64 ((s / 18446744073709551616 : Nat) : Int), .int .u64 ((s % 18446744073709551616 : Nat) : Int)]) := rfl
      generalize s / 18446744073709551616 = sh at *
      generalize s % 18446744073709551616 = sl at *
      have FIN : Hid (BlkIs ((wr.setCell ⟨g, 0, none⟩ (.int .u64 (sh : Int))).setCell ⟨g, 1, none⟩ (.int .u64 (sl : Int))) g 53 #[.int .u64 (sh : Int), .int .u64 (sl : Int)] ∧ Nx w ((wr.setCell ⟨g, 0, none⟩ (.int .u64 (sh : Int))).setCell ⟨g, 1, none⟩ (.int .u64 (sl : Int)))) :=
        ⟨(hb0.set 0 _).set 1 _, (hnx.set _ _ _ hlg).set _ _ _ hlg⟩
      clear hh hnx hb0 hb1 b0 hlt hsl
      go_wp2
      refine bodyPost_ret (results_cell_row rfl _ _ g 53 #[.int .u64 (sh : Int), .int .u64 (sl : Int)] (0, 0) _ rfl FIN.out.1 Tryd.underlying53 rfl (by kernel_rfl)) rfl ?_
      exact ⟨by rw [HSL.out, HSV.out], FIN.out.2⟩
end Go.Proofs.YtlmfjalkgapcgaaDoor

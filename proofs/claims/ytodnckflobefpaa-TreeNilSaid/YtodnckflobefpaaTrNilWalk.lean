/- The walk of the law TreeNil. -/
import Derived.Test.YtodnckflobefpaaTrCall
namespace Go.Proofs.Ytodnckflobefpaa
open Go.RowKit Go.Maps
set_option linter.unusedVariables false

theorem call_nil (w : World) (a : Ac) (hk1 : -9223372036854775808 ≤ a.K) (hk2 : a.K ≤ 9223372036854775807) (b : Str) (hb : Arg w a.A a.n a.c b) (hn : a.n ≤ 3000) (ps : List Int) (hp : Nums w a.A4 a.n4 a.c4 ps) :
    Calls Try.prog 22 #[.pointer none, .agg a.cs] w fun e w' => e = .returned (Ans [] 1) ∧ Nx w w' := by
  have hQ : ∀ (x : Str) (er : Int) (W W' : World), (x = [] ∧ er = 1 ∧ Nx w W) → Chd (fun j => j = w.heap.size + 1) W W' → w.heap.size + 1 < W.heap.size → (x = [] ∧ er = 1 ∧ Nx w W') := fun x er W W' ⟨h1, h2, h3⟩ hc _ => ⟨h1, h2, ((Chd.of_below h3).then_ hc (fun j hj e => by omega) : Chd (fun _ => False) w W').below (Nat.le_refl _) (fun _ _ e => e)⟩
  have fin : ∀ (e : Ending) (w' : World), (∃ x er, e = .returned (Ans x er) ∧ (x = [] ∧ er = 1 ∧ Nx w w')) → e = .returned (Ans [] 1) ∧ Nx w w' := fun e w' ⟨x, er, h, h1, h2, h3⟩ => ⟨by rw [h, h1, h2], h3⟩
  have l0 := pickOf_lo a.K 10 (by omega)
  have l1 := pickOf_hi a.K 10 (by omega)
  have put : ∀ {W W2 : World} {f : FuncId} {args : Array Value}, Nx w W → Nx W W2 → w.heap.size + 1 < W.heap.size → Calls Try.prog f args W2 (fun e w' => e = .returned (.int .i64 1) ∧ Nx W2 w') → Calls Try.prog f args W2 (fun e w' => ∃ er, e = .returned (.int .i64 er) ∧ (([] : Str) = [] ∧ er = 1 ∧ Nx w w') ∧ Kept2 w.heap.size W2 w') :=
    fun h1 h2 h3 hc => hc.mono fun e w' ⟨e1, e2⟩ => ⟨1, e1, ⟨rfl, rfl, (h1.trans h2).trans e2⟩, Kept2.of_nx e2 (Nat.lt_of_lt_of_le h3 h2.size)⟩
  rcases (show pickOf a.K 10 = 0 ∨ pickOf a.K 10 = 1 ∨ pickOf a.K 10 = 2 ∨ pickOf a.K 10 = 3 ∨ pickOf a.K 10 = 4 ∨ pickOf a.K 10 = 5 ∨ pickOf a.K 10 = 6 ∨ pickOf a.K 10 = 7 ∨ pickOf a.K 10 = 8 ∨ pickOf a.K 10 = 9 by omega) with h | h | h | h | h | h | h | h | h | h
  · exact (call_0 w _ a hk1 hk2 h _ (fun W hx hs => put hx (Nx.refl _) hs (make_nil W a.p)) hQ).mono fin
  · exact (call_1 w _ a hk1 hk2 h b hb hn _ (fun W W2 j c2 hx hs hx2 ho => put hx hx2 hs (write_nil W2 a.p _ _ _)) hQ).mono fin
  · exact (call_2 w _ a hk1 hk2 h b hb hn _ (fun W W2 j c2 hx hs hx2 ho => put hx hx2 hs (append_nil W2 a.p _ _ _)) hQ).mono fin
  · exact (call_3 w _ a hk1 hk2 h _ (fun W hx hs => put hx (Nx.refl _) hs (sync_nil W a.p)) hQ).mono fin
  · exact (call_4 w _ a hk1 hk2 h _ (fun W hx hs => put hx (Nx.refl _) hs (syncPaths_nil W)) hQ).mono fin
  · exact (call_5 w _ a hk1 hk2 h _ (fun W hx hs => put hx (Nx.refl _) hs (rename_nil W a.p a.q)) hQ).mono fin
  · exact (call_6 w _ a hk1 hk2 h _ (fun W hx hs => put hx (Nx.refl _) hs (remove_nil W a.p)) hQ).mono fin
  · exact (call_7 w _ a hk1 hk2 h _ (fun W hx hs => put hx (Nx.refl _) hs (fuse_nil W a.N)) hQ).mono fin
  · exact (call_8 w _ a hk1 hk2 h ps hp _ (fun W W2 A2 c2 hx hs hx2 hN hA => put hx hx2 hs (crash_nil W2 a.N _ _ _)) hQ).mono fin
  · refine (call_9 w _ a hk1 hk2 h _ (fun W hx hs => (read_nil W a.p).mono fun e w' ⟨e1, e2⟩ => ⟨none, 0, 0, [], 1, e1, ?_, ⟨rfl, rfl, hx.trans e2⟩, Kept2.of_nx e2 hs⟩) hQ).mono fin
    exact run_string_of_bytes (Byt.none_ w' 0)

set_option maxRecDepth 100000 in
set_option maxHeartbeats 4000000 in
theorem nil_any (w : World) (a : Ac) (hk1 : -9223372036854775808 ≤ a.K) (hk2 : a.K ≤ 9223372036854775807) (b : Str) (hb : Arg w a.A a.n a.c b) (hbn : a.n ≤ 9223372036854775807) (hp : a.n4 ≤ 100000 → ∃ ps, Nums w a.A4 a.n4 a.c4 ps) (hn4 : a.n4 ≤ 9223372036854775807) :
    Calls Try.prog 4 #[.agg a.cs] w fun e w' => e = .returned (.bool true) ∧ Below w.heap.size w w' := by
  have YL := Lib.hid (fun W => lives_any W)
  have CN : Hid (a.fits → ∀ W, Nx w W → _) := fun hf W hx => by
    obtain ⟨ps, hps⟩ := hp (by have := hf.2.2.2; omega)
    exact call_nil W a hk1 hk2 b (hb.nx hx) hf.2.2.1 ps (hps.nx hx)
  have SM := Lib.hid (fun W A n c l h hp => small_any W A n c l h hp)
  have HZ : Hid (a.n ≤ 9223372036854775807 ∧ a.n4 ≤ 9223372036854775807) := ⟨hbn, hn4⟩
  clear hb hbn hp hn4 hk1 hk2
  have HB := Lib.hid (BlkIs.new w 39 a.cs)
  have HN : Hid (Nx w (w.alloc (.cells a.cs 39))) := (Below.refl _ w).alloc (Nat.le_refl _) _
  have SN : Hid (∀ W : World, Calls Try.prog 20 #[.slice (some ⟨W.heap.size, 0, none⟩) 1 1] (W.alloc (.cells a.cs 39)) (SmallPost 1 (fun _ => a) (W.alloc (.cells a.cs 39)))) := fun W =>
    SM.out (W.alloc (.cells a.cs 39)) (some ⟨W.heap.size, 0, none⟩) 1 1 (fun _ => a) ⟨Nat.le_refl _, by unfold maxLen; omega, fun _ => ⟨W.heap.size, 0, rfl, by simp, fun i hi f hf => by
      obtain rfl : i = 0 := by omega
      rw [show 0 + 0 * 6 + f = f from by omega]
      exact (BlkIs.new W 39 a.cs).cell f⟩⟩ (fun i hi => HZ.out)
  clear SM
  obtain ⟨K, p, q, A, n, c, N, A4, n4, c4⟩ := a
  simp only [Ac.cs] at *
  generalize hsp : S p = sp at *
  generalize hsq : S q = sq at *
  have X1 := Lib.hid (fun W => stat_nil W p)
  have X2 := Lib.hid (fun W => paths_nil W q)
  have X3 := Lib.hid (fun W => left_nil W)
  have X4 := Lib.hid (fun W => clock_nil W)
  have X5 := Lib.hid (fun W => on_nil W)
  have X6 := Lib.hid (fun W => safe_nil W)
  rw [hsp] at X1
  rw [hsq] at X2
  have HSP := Lib.hid hsp
  have HSQ := Lib.hid hsq
  clear hsp hsq
  go_enter Try.func4, Try.ntmps4
  go_wp2_with fail
  refine (YL.out _).mono ?_
  rintro e w1 ⟨rfl, hx⟩
  have HB1 := Lib.hid (HB.out.nx hx)
  have HN1 : Hid (Nx w w1) := HN.out.trans hx
  clear hx HN HB YL
  have dc : ∀ f, _ = _ := fun f => HB1.out.cell f
  have d0 := dc 0
  have d1 := dc 1
  have d2 := dc 2
  have d3 := dc 3
  have d4 := dc 4
  have d5 := dc 5
  simp only [List.getElem?_toArray, List.getElem?_cons_zero, List.getElem?_cons_succ] at d0 d1 d2 d3 d4 d5
  clear dc
  go_wp2_with fail
  refine (SN.out w1).mono ?_
  rintro e w2 ⟨b2, rfl, ⟨m, hm⟩, hfit⟩
  have HN2 : Hid (Nx w w2) := by rw [hm]; exact Nx.drewN (HN1.out.trans ((Below.refl _ w1).alloc (Nat.le_refl _) _)) m
  have HB2 : Hid (BlkIs w2 w.heap.size 39 #[.int .i64 K, .string sp, .string sq, .slice A n c, .int .i64 N, .slice A4 n4 c4]) := by rw [hm]; exact (HB1.out.alloc _).nx (Nx.drewN (Nx.refl _) m)
  clear hm SN d0 d1 d2 d3 d4 d5 HB1 HN1
  have dc : ∀ f, _ = _ := fun f => HB2.out.cell f
  have d0 := dc 0
  have d1 := dc 1
  have d2 := dc 2
  have d3 := dc 3
  have d4 := dc 4
  have d5 := dc 5
  simp only [List.getElem?_toArray, List.getElem?_cons_zero, List.getElem?_cons_succ] at d0 d1 d2 d3 d4 d5
  clear dc
  cases b2 with
  | false =>
    clear hfit
    go_wp2
    go_ret
    exact ⟨rfl, HN2.out⟩
  | true =>
    have HF := Lib.hid ((hfit rfl).2 0 (by omega))
    clear hfit
    have CN2 := Lib.hid (CN.out HF.out)
    clear CN
    go_wp2_with fail
    refine (X1.out w2).mono ?_
    rintro e w3 ⟨rfl, hx⟩
    have HN3 : Hid (Nx w w3) := HN2.out.trans hx
    have HB3 := Lib.hid (HB2.out.nx hx)
    clear hx d0 d1 d2 d3 d4 d5 HB2 HN2 X1
    have dc : ∀ f, _ = _ := fun f => HB3.out.cell f
    have d0 := dc 0
    have d1 := dc 1
    have d2 := dc 2
    have d3 := dc 3
    have d4 := dc 4
    have d5 := dc 5
    simp only [List.getElem?_toArray, List.getElem?_cons_zero, List.getElem?_cons_succ] at d0 d1 d2 d3 d4 d5
    clear dc
    go_wp2_with fail
    refine (CN2.out w3 HN3.out).mono ?_
    rintro e w4 ⟨rfl, hx⟩
    have HN4 : Hid (Nx w w4) := HN3.out.trans hx
    have HB4 := Lib.hid (HB3.out.nx hx)
    clear hx d0 d1 d2 d3 d4 d5 HB3 HN3 CN2
    have d2 : w4.cell? ⟨w.heap.size, 2, none⟩ = some (.string sq) := by rw [HB4.out.cell 2]; rfl
    unfold Ans
    rw [show Go.Proofs.Ytodnckflobefpaa.S [] = ⟨#[]⟩ from rfl]
    go_wp2_with fail
    refine (X2.out _).mono ?_
    rintro e w5 ⟨rfl, hx⟩
    have HN5 : Hid (Nx w w5) := HN4.out.trans hx
    clear hx d2 HB4 HN4 X2
    go_wp2_with fail
    refine (X3.out _).mono ?_
    rintro e w6 ⟨rfl, hx⟩
    have HN6 : Hid (Nx w w6) := HN5.out.trans hx
    clear hx HN5 X3
    go_wp2_with fail
    refine (X4.out _).mono ?_
    rintro e w7 ⟨rfl, hx⟩
    have HN7 : Hid (Nx w w7) := HN6.out.trans hx
    clear hx HN6 X4
    go_wp2_with fail
    refine (X5.out _).mono ?_
    rintro e w8 ⟨rfl, hx⟩
    have HN8 : Hid (Nx w w8) := HN7.out.trans hx
    clear hx HN7 X5
    go_wp2_with fail
    refine (X6.out _).mono ?_
    rintro e w9 ⟨rfl, hx⟩
    have HN9 : Hid (Nx w w9) := HN8.out.trans hx
    clear hx HN8 X6
    go_wp2
    go_ret
    exact ⟨rfl, HN9.out⟩
end Go.Proofs.Ytodnckflobefpaa

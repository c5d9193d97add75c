/- Package tree: a call that a law is handed, over what each method does to the receiver. -/
import Derived.Test.YtodnckflobefpaaTrSmall
import Derived.Deep.RegionHeld3
namespace Go.Proofs.Ytodnckflobefpaa
open Go.RowKit Go.Maps
set_option linter.unusedVariables false

/-- The call's own two blocks: the call, boxed, and the answer. -/
def Two (w : World) (a : Ac) : World := (w.alloc (.cells a.cs 39)).alloc (.cells #[.string ⟨#[]⟩, .int .i64 0] 46)
/-- What lies in them is as it was. -/
def Kept2 (n0 : Nat) (W W' : World) : Prop := W'.heap[n0]? = W.heap[n0]? ∧ W'.heap[n0 + 1]? = W.heap[n0 + 1]?
theorem Kept2.of_nx {n0 : Nat} {W W' : World} (h : Nx W W') (hs : n0 + 1 < W.heap.size) : Kept2 n0 W W' := ⟨h.block n0 (by omega), h.block (n0 + 1) hs⟩
def Ans (x : Str) (er : Int) : Value := .agg #[.string (S x), .int .i64 er]
theorem two_nx (w : World) (a : Ac) : Nx w (Two w a) := ((Below.refl _ w).alloc (Nat.le_refl _) _).alloc (by simp) _
theorem two_size (w : World) (a : Ac) : (Two w a).heap.size = w.heap.size + 2 := by unfold Two; rw [World.size_alloc, World.size_alloc]
theorem two_a (w : World) (a : Ac) : BlkIs (Two w a) w.heap.size 39 a.cs := (BlkIs.new w 39 a.cs).alloc _
theorem two_b (w : World) (a : Ac) : BlkIs (Two w a) (w.heap.size + 1) 46 #[.string ⟨#[]⟩, .int .i64 0] := by
  have := BlkIs.new (w.alloc (.cells a.cs 39)) 46 #[.string ⟨#[]⟩, .int .i64 0]
  rw [World.size_alloc] at this
  exact this
theorem ans_results (w2 : World) (tmps : Array Value) (n0 : Nat) (x : Str) (er : Int) (h : BlkIs w2 n0 46 #[.string (S x), .int .i64 er]) (ht : tmps.getD 4 undef = .pointer (some ⟨n0, 0, none⟩)) :
    (results Try.f22 tmps).run Try.prog w2 = .ok (Ans x er) w2 := by
  have e0 := h.cell 0
  have e1 := h.cell 1
  have f0 := h.frozen 0
  have f1 := h.frozen 1
  simp only [List.getElem?_toArray, List.getElem?_cons_zero, List.getElem?_cons_succ] at e0 e1
  have ht2 : tmps[4]?.getD undef = .pointer (some ⟨n0, 0, none⟩) := by rw [← ht]; simp
  clear ht
  unfold Ans
  simp [results, Try.results22, ht2, go_sem, e0, e1]
theorem ans_set {w w1 : World} (h : BlkIs w1 (w.heap.size + 1) 46 #[.string ⟨#[]⟩, .int .i64 0]) (x : ByteArray) (er : Int) :
    BlkIs ((w1.setCell ⟨w.heap.size + 1, 0, none⟩ (.string x)).setCell ⟨w.heap.size + 1, 1, none⟩ (.int .i64 er)) (w.heap.size + 1) 46 #[.string x, .int .i64 er] ∧
    Chd (fun j => j = w.heap.size + 1) w1 ((w1.setCell ⟨w.heap.size + 1, 0, none⟩ (.string x)).setCell ⟨w.heap.size + 1, 1, none⟩ (.int .i64 er)) :=
  ⟨(h.set 0 (.string x)).set 1 (.int .i64 er), (Chd.set w1 _ 0 _).trans (Chd.set _ _ 1 _)⟩

set_option maxRecDepth 100000 in
set_option maxHeartbeats 4000000 in
theorem call_0 (w : World) (R : Value) (a : Ac) (hk1 : -9223372036854775808 ≤ a.K) (hk2 : a.K ≤ 9223372036854775807) (hk : pickOf a.K 10 = 0) (Q : Str → Int → World → Prop)
    (hX : ∀ W, Nx w W → w.heap.size + 1 < W.heap.size → Calls Try.prog 10 #[R, .string (S a.p)] W fun e w' => ∃ er, e = .returned (.int .i64 er) ∧ Q [] er w' ∧ Kept2 w.heap.size W w')
    (hQ : ∀ x er W W', Q x er W → Chd (fun j => j = w.heap.size + 1) W W' → w.heap.size + 1 < W.heap.size → Q x er W') :
    Calls Try.prog 22 #[R, .agg a.cs] w fun e w' => ∃ x er, e = .returned (Ans x er) ∧ Q x er w' := by
  have P := Lib.hid (pick_any a.K 10 (Two w a) (by omega) (by omega) hk1 hk2)
  rw [hk] at P
  have HX := Lib.hid hX
  have HQ := Lib.hid hQ
  have HA := Lib.hid (two_a w a)
  have HB := Lib.hid (two_b w a)
  have HN := Lib.hid (two_nx w a)
  have HS := Lib.hid (two_size w a)
  clear hX hQ hk hk1 hk2
  obtain ⟨K, p, q, A, n, c, N, A4, n4, c4⟩ := a
  simp only [Two, Ac.cs] at *
  have dc : ∀ f, _ = _ := fun f => HA.out.cell f
  have d0 := dc 0
  have d1 := dc 1
  have d2 := dc 2
  have d3 := dc 3
  have d4 := dc 4
  have d5 := dc 5
  simp only [List.getElem?_toArray, List.getElem?_cons_zero, List.getElem?_cons_succ] at d0 d1 d2 d3 d4 d5
  clear dc
  generalize hsp : S p = sp at *
  generalize hsq : S q = sq at *
  go_enter Try.func22, Try.ntmps22
  go_wp2_with fail
  refine P.out.mono ?_
  rintro e w1 ⟨rfl, rfl⟩
  clear P
  go_wp2_with fail
  refine (HX.out _ HN.out (by rw [HS.out]; omega)).mono ?_
  rintro e w1 ⟨er, rfl, hq, hkp⟩
  have HB1 : Hid (BlkIs w1 (w.heap.size + 1) 46 #[.string ⟨#[]⟩, .int .i64 0]) := hkp.2.trans HB.out
  have HQ1 := Lib.hid hq
  clear hq hkp HX
  have f0 := HB1.out.frozen 0
  have f1 := HB1.out.frozen 1
  have e0 := HB1.out.cell 0
  have e1 := HB1.out.cell 1
  simp only [List.getElem?_toArray, List.getElem?_cons_zero, List.getElem?_cons_succ] at e0 e1
  go_wp2
  obtain ⟨b1, b2⟩ := ans_set HB1.out ⟨#[]⟩ er
  refine bodyPost_ret (ans_results _ _ (w.heap.size + 1) [] er b1 rfl) rfl ?_
  exact ⟨[], er, rfl, HQ.out _ _ _ _ HQ1.out b2 HB1.out.lt⟩

set_option maxRecDepth 100000 in
set_option maxHeartbeats 4000000 in
theorem call_3 (w : World) (R : Value) (a : Ac) (hk1 : -9223372036854775808 ≤ a.K) (hk2 : a.K ≤ 9223372036854775807) (hk : pickOf a.K 10 = 3) (Q : Str → Int → World → Prop)
    (hX : ∀ W, Nx w W → w.heap.size + 1 < W.heap.size → Calls Try.prog 12 #[R, .string (S a.p)] W fun e w' => ∃ er, e = .returned (.int .i64 er) ∧ Q [] er w' ∧ Kept2 w.heap.size W w')
    (hQ : ∀ x er W W', Q x er W → Chd (fun j => j = w.heap.size + 1) W W' → w.heap.size + 1 < W.heap.size → Q x er W') :
    Calls Try.prog 22 #[R, .agg a.cs] w fun e w' => ∃ x er, e = .returned (Ans x er) ∧ Q x er w' := by
  have P := Lib.hid (pick_any a.K 10 (Two w a) (by omega) (by omega) hk1 hk2)
  rw [hk] at P
  have HX := Lib.hid hX
  have HQ := Lib.hid hQ
  have HA := Lib.hid (two_a w a)
  have HB := Lib.hid (two_b w a)
  have HN := Lib.hid (two_nx w a)
  have HS := Lib.hid (two_size w a)
  clear hX hQ hk hk1 hk2
  obtain ⟨K, p, q, A, n, c, N, A4, n4, c4⟩ := a
  simp only [Two, Ac.cs] at *
  have dc : ∀ f, _ = _ := fun f => HA.out.cell f
  have d0 := dc 0
  have d1 := dc 1
  have d2 := dc 2
  have d3 := dc 3
  have d4 := dc 4
  have d5 := dc 5
  simp only [List.getElem?_toArray, List.getElem?_cons_zero, List.getElem?_cons_succ] at d0 d1 d2 d3 d4 d5
  clear dc
  generalize hsp : S p = sp at *
  generalize hsq : S q = sq at *
  go_enter Try.func22, Try.ntmps22
  go_wp2_with fail
  refine P.out.mono ?_
  rintro e w1 ⟨rfl, rfl⟩
  clear P
  go_wp2_with fail
  refine (HX.out _ HN.out (by rw [HS.out]; omega)).mono ?_
  rintro e w1 ⟨er, rfl, hq, hkp⟩
  have HB1 : Hid (BlkIs w1 (w.heap.size + 1) 46 #[.string ⟨#[]⟩, .int .i64 0]) := hkp.2.trans HB.out
  have HQ1 := Lib.hid hq
  clear hq hkp HX
  have f0 := HB1.out.frozen 0
  have f1 := HB1.out.frozen 1
  have e0 := HB1.out.cell 0
  have e1 := HB1.out.cell 1
  simp only [List.getElem?_toArray, List.getElem?_cons_zero, List.getElem?_cons_succ] at e0 e1
  go_wp2
  obtain ⟨b1, b2⟩ := ans_set HB1.out ⟨#[]⟩ er
  refine bodyPost_ret (ans_results _ _ (w.heap.size + 1) [] er b1 rfl) rfl ?_
  exact ⟨[], er, rfl, HQ.out _ _ _ _ HQ1.out b2 HB1.out.lt⟩

set_option maxRecDepth 100000 in
set_option maxHeartbeats 4000000 in
theorem call_4 (w : World) (R : Value) (a : Ac) (hk1 : -9223372036854775808 ≤ a.K) (hk2 : a.K ≤ 9223372036854775807) (hk : pickOf a.K 10 = 4) (Q : Str → Int → World → Prop)
    (hX : ∀ W, Nx w W → w.heap.size + 1 < W.heap.size → Calls Try.prog 27 #[R] W fun e w' => ∃ er, e = .returned (.int .i64 er) ∧ Q [] er w' ∧ Kept2 w.heap.size W w')
    (hQ : ∀ x er W W', Q x er W → Chd (fun j => j = w.heap.size + 1) W W' → w.heap.size + 1 < W.heap.size → Q x er W') :
    Calls Try.prog 22 #[R, .agg a.cs] w fun e w' => ∃ x er, e = .returned (Ans x er) ∧ Q x er w' := by
  have P := Lib.hid (pick_any a.K 10 (Two w a) (by omega) (by omega) hk1 hk2)
  rw [hk] at P
  have HX := Lib.hid hX
  have HQ := Lib.hid hQ
  have HA := Lib.hid (two_a w a)
  have HB := Lib.hid (two_b w a)
  have HN := Lib.hid (two_nx w a)
  have HS := Lib.hid (two_size w a)
  clear hX hQ hk hk1 hk2
  obtain ⟨K, p, q, A, n, c, N, A4, n4, c4⟩ := a
  simp only [Two, Ac.cs] at *
  have dc : ∀ f, _ = _ := fun f => HA.out.cell f
  have d0 := dc 0
  have d1 := dc 1
  have d2 := dc 2
  have d3 := dc 3
  have d4 := dc 4
  have d5 := dc 5
  simp only [List.getElem?_toArray, List.getElem?_cons_zero, List.getElem?_cons_succ] at d0 d1 d2 d3 d4 d5
  clear dc
  generalize hsp : S p = sp at *
  generalize hsq : S q = sq at *
  go_enter Try.func22, Try.ntmps22
  go_wp2_with fail
  refine P.out.mono ?_
  rintro e w1 ⟨rfl, rfl⟩
  clear P
  go_wp2_with fail
  refine (HX.out _ HN.out (by rw [HS.out]; omega)).mono ?_
  rintro e w1 ⟨er, rfl, hq, hkp⟩
  have HB1 : Hid (BlkIs w1 (w.heap.size + 1) 46 #[.string ⟨#[]⟩, .int .i64 0]) := hkp.2.trans HB.out
  have HQ1 := Lib.hid hq
  clear hq hkp HX
  have f0 := HB1.out.frozen 0
  have f1 := HB1.out.frozen 1
  have e0 := HB1.out.cell 0
  have e1 := HB1.out.cell 1
  simp only [List.getElem?_toArray, List.getElem?_cons_zero, List.getElem?_cons_succ] at e0 e1
  go_wp2
  obtain ⟨b1, b2⟩ := ans_set HB1.out ⟨#[]⟩ er
  refine bodyPost_ret (ans_results _ _ (w.heap.size + 1) [] er b1 rfl) rfl ?_
  exact ⟨[], er, rfl, HQ.out _ _ _ _ HQ1.out b2 HB1.out.lt⟩

set_option maxRecDepth 100000 in
set_option maxHeartbeats 4000000 in
theorem call_5 (w : World) (R : Value) (a : Ac) (hk1 : -9223372036854775808 ≤ a.K) (hk2 : a.K ≤ 9223372036854775807) (hk : pickOf a.K 10 = 5) (Q : Str → Int → World → Prop)
    (hX : ∀ W, Nx w W → w.heap.size + 1 < W.heap.size → Calls Try.prog 13 #[R, .string (S a.p), .string (S a.q)] W fun e w' => ∃ er, e = .returned (.int .i64 er) ∧ Q [] er w' ∧ Kept2 w.heap.size W w')
    (hQ : ∀ x er W W', Q x er W → Chd (fun j => j = w.heap.size + 1) W W' → w.heap.size + 1 < W.heap.size → Q x er W') :
    Calls Try.prog 22 #[R, .agg a.cs] w fun e w' => ∃ x er, e = .returned (Ans x er) ∧ Q x er w' := by
  have P := Lib.hid (pick_any a.K 10 (Two w a) (by omega) (by omega) hk1 hk2)
  rw [hk] at P
  have HX := Lib.hid hX
  have HQ := Lib.hid hQ
  have HA := Lib.hid (two_a w a)
  have HB := Lib.hid (two_b w a)
  have HN := Lib.hid (two_nx w a)
  have HS := Lib.hid (two_size w a)
  clear hX hQ hk hk1 hk2
  obtain ⟨K, p, q, A, n, c, N, A4, n4, c4⟩ := a
  simp only [Two, Ac.cs] at *
  have dc : ∀ f, _ = _ := fun f => HA.out.cell f
  have d0 := dc 0
  have d1 := dc 1
  have d2 := dc 2
  have d3 := dc 3
  have d4 := dc 4
  have d5 := dc 5
  simp only [List.getElem?_toArray, List.getElem?_cons_zero, List.getElem?_cons_succ] at d0 d1 d2 d3 d4 d5
  clear dc
  generalize hsp : S p = sp at *
  generalize hsq : S q = sq at *
  go_enter Try.func22, Try.ntmps22
  go_wp2_with fail
  refine P.out.mono ?_
  rintro e w1 ⟨rfl, rfl⟩
  clear P
  go_wp2_with fail
  refine (HX.out _ HN.out (by rw [HS.out]; omega)).mono ?_
  rintro e w1 ⟨er, rfl, hq, hkp⟩
  have HB1 : Hid (BlkIs w1 (w.heap.size + 1) 46 #[.string ⟨#[]⟩, .int .i64 0]) := hkp.2.trans HB.out
  have HQ1 := Lib.hid hq
  clear hq hkp HX
  have f0 := HB1.out.frozen 0
  have f1 := HB1.out.frozen 1
  have e0 := HB1.out.cell 0
  have e1 := HB1.out.cell 1
  simp only [List.getElem?_toArray, List.getElem?_cons_zero, List.getElem?_cons_succ] at e0 e1
  go_wp2
  obtain ⟨b1, b2⟩ := ans_set HB1.out ⟨#[]⟩ er
  refine bodyPost_ret (ans_results _ _ (w.heap.size + 1) [] er b1 rfl) rfl ?_
  exact ⟨[], er, rfl, HQ.out _ _ _ _ HQ1.out b2 HB1.out.lt⟩

set_option maxRecDepth 100000 in
set_option maxHeartbeats 4000000 in
theorem call_6 (w : World) (R : Value) (a : Ac) (hk1 : -9223372036854775808 ≤ a.K) (hk2 : a.K ≤ 9223372036854775807) (hk : pickOf a.K 10 = 6) (Q : Str → Int → World → Prop)
    (hX : ∀ W, Nx w W → w.heap.size + 1 < W.heap.size → Calls Try.prog 48 #[R, .string (S a.p)] W fun e w' => ∃ er, e = .returned (.int .i64 er) ∧ Q [] er w' ∧ Kept2 w.heap.size W w')
    (hQ : ∀ x er W W', Q x er W → Chd (fun j => j = w.heap.size + 1) W W' → w.heap.size + 1 < W.heap.size → Q x er W') :
    Calls Try.prog 22 #[R, .agg a.cs] w fun e w' => ∃ x er, e = .returned (Ans x er) ∧ Q x er w' := by
  have P := Lib.hid (pick_any a.K 10 (Two w a) (by omega) (by omega) hk1 hk2)
  rw [hk] at P
  have HX := Lib.hid hX
  have HQ := Lib.hid hQ
  have HA := Lib.hid (two_a w a)
  have HB := Lib.hid (two_b w a)
  have HN := Lib.hid (two_nx w a)
  have HS := Lib.hid (two_size w a)
  clear hX hQ hk hk1 hk2
  obtain ⟨K, p, q, A, n, c, N, A4, n4, c4⟩ := a
  simp only [Two, Ac.cs] at *
  have dc : ∀ f, _ = _ := fun f => HA.out.cell f
  have d0 := dc 0
  have d1 := dc 1
  have d2 := dc 2
  have d3 := dc 3
  have d4 := dc 4
  have d5 := dc 5
  simp only [List.getElem?_toArray, List.getElem?_cons_zero, List.getElem?_cons_succ] at d0 d1 d2 d3 d4 d5
  clear dc
  generalize hsp : S p = sp at *
  generalize hsq : S q = sq at *
  go_enter Try.func22, Try.ntmps22
  go_wp2_with fail
  refine P.out.mono ?_
  rintro e w1 ⟨rfl, rfl⟩
  clear P
  go_wp2_with fail
  refine (HX.out _ HN.out (by rw [HS.out]; omega)).mono ?_
  rintro e w1 ⟨er, rfl, hq, hkp⟩
  have HB1 : Hid (BlkIs w1 (w.heap.size + 1) 46 #[.string ⟨#[]⟩, .int .i64 0]) := hkp.2.trans HB.out
  have HQ1 := Lib.hid hq
  clear hq hkp HX
  have f0 := HB1.out.frozen 0
  have f1 := HB1.out.frozen 1
  have e0 := HB1.out.cell 0
  have e1 := HB1.out.cell 1
  simp only [List.getElem?_toArray, List.getElem?_cons_zero, List.getElem?_cons_succ] at e0 e1
  go_wp2
  obtain ⟨b1, b2⟩ := ans_set HB1.out ⟨#[]⟩ er
  refine bodyPost_ret (ans_results _ _ (w.heap.size + 1) [] er b1 rfl) rfl ?_
  exact ⟨[], er, rfl, HQ.out _ _ _ _ HQ1.out b2 HB1.out.lt⟩

set_option maxRecDepth 100000 in
set_option maxHeartbeats 4000000 in
theorem call_7 (w : World) (R : Value) (a : Ac) (hk1 : -9223372036854775808 ≤ a.K) (hk2 : a.K ≤ 9223372036854775807) (hk : pickOf a.K 10 = 7) (Q : Str → Int → World → Prop)
    (hX : ∀ W, Nx w W → w.heap.size + 1 < W.heap.size → Calls Try.prog 17 #[R, .int .i64 a.N] W fun e w' => ∃ er, e = .returned (.int .i64 er) ∧ Q [] er w' ∧ Kept2 w.heap.size W w')
    (hQ : ∀ x er W W', Q x er W → Chd (fun j => j = w.heap.size + 1) W W' → w.heap.size + 1 < W.heap.size → Q x er W') :
    Calls Try.prog 22 #[R, .agg a.cs] w fun e w' => ∃ x er, e = .returned (Ans x er) ∧ Q x er w' := by
  have P := Lib.hid (pick_any a.K 10 (Two w a) (by omega) (by omega) hk1 hk2)
  rw [hk] at P
  have HX := Lib.hid hX
  have HQ := Lib.hid hQ
  have HA := Lib.hid (two_a w a)
  have HB := Lib.hid (two_b w a)
  have HN := Lib.hid (two_nx w a)
  have HS := Lib.hid (two_size w a)
  clear hX hQ hk hk1 hk2
  obtain ⟨K, p, q, A, n, c, N, A4, n4, c4⟩ := a
  simp only [Two, Ac.cs] at *
  have dc : ∀ f, _ = _ := fun f => HA.out.cell f
  have d0 := dc 0
  have d1 := dc 1
  have d2 := dc 2
  have d3 := dc 3
  have d4 := dc 4
  have d5 := dc 5
  simp only [List.getElem?_toArray, List.getElem?_cons_zero, List.getElem?_cons_succ] at d0 d1 d2 d3 d4 d5
  clear dc
  generalize hsp : S p = sp at *
  generalize hsq : S q = sq at *
  go_enter Try.func22, Try.ntmps22
  go_wp2_with fail
  refine P.out.mono ?_
  rintro e w1 ⟨rfl, rfl⟩
  clear P
  go_wp2_with fail
  refine (HX.out _ HN.out (by rw [HS.out]; omega)).mono ?_
  rintro e w1 ⟨er, rfl, hq, hkp⟩
  have HB1 : Hid (BlkIs w1 (w.heap.size + 1) 46 #[.string ⟨#[]⟩, .int .i64 0]) := hkp.2.trans HB.out
  have HQ1 := Lib.hid hq
  clear hq hkp HX
  have f0 := HB1.out.frozen 0
  have f1 := HB1.out.frozen 1
  have e0 := HB1.out.cell 0
  have e1 := HB1.out.cell 1
  simp only [List.getElem?_toArray, List.getElem?_cons_zero, List.getElem?_cons_succ] at e0 e1
  go_wp2
  obtain ⟨b1, b2⟩ := ans_set HB1.out ⟨#[]⟩ er
  refine bodyPost_ret (ans_results _ _ (w.heap.size + 1) [] er b1 rfl) rfl ?_
  exact ⟨[], er, rfl, HQ.out _ _ _ _ HQ1.out b2 HB1.out.lt⟩

set_option maxRecDepth 100000 in
set_option maxHeartbeats 4000000 in
theorem call_9 (w : World) (R : Value) (a : Ac) (hk1 : -9223372036854775808 ≤ a.K) (hk2 : a.K ≤ 9223372036854775807) (hk : pickOf a.K 10 = 9) (Q : Str → Int → World → Prop)
    (hX : ∀ W, Nx w W → w.heap.size + 1 < W.heap.size → Calls Try.prog 18 #[R, .string (S a.p)] W fun e w' => ∃ A n c x er, e = .returned (.tuple #[.slice A n c, .int .i64 er]) ∧ (convert 29 9 (.slice A n c)).run Try.prog w' = .ok (.string (S x)) w' ∧ Q x er w' ∧ Kept2 w.heap.size W w')
    (hQ : ∀ x er W W', Q x er W → Chd (fun j => j = w.heap.size + 1) W W' → w.heap.size + 1 < W.heap.size → Q x er W') :
    Calls Try.prog 22 #[R, .agg a.cs] w fun e w' => ∃ x er, e = .returned (Ans x er) ∧ Q x er w' := by
  have P := Lib.hid (pick_any a.K 10 (Two w a) (by omega) (by omega) hk1 hk2)
  rw [hk] at P
  have HX := Lib.hid hX
  have HQ := Lib.hid hQ
  have HA := Lib.hid (two_a w a)
  have HB := Lib.hid (two_b w a)
  have HN := Lib.hid (two_nx w a)
  have HS := Lib.hid (two_size w a)
  clear hX hQ hk hk1 hk2
  obtain ⟨K, p, q, A, n, c, N, A4, n4, c4⟩ := a
  simp only [Two, Ac.cs] at *
  have dc : ∀ f, _ = _ := fun f => HA.out.cell f
  have d0 := dc 0
  have d1 := dc 1
  have d2 := dc 2
  have d3 := dc 3
  have d4 := dc 4
  have d5 := dc 5
  simp only [List.getElem?_toArray, List.getElem?_cons_zero, List.getElem?_cons_succ] at d0 d1 d2 d3 d4 d5
  clear dc
  generalize hsp : S p = sp at *
  generalize hsq : S q = sq at *
  go_enter Try.func22, Try.ntmps22
  go_wp2_with fail
  refine P.out.mono ?_
  rintro e w1 ⟨rfl, rfl⟩
  clear P
  go_wp2_with fail
  refine (HX.out _ HN.out (by rw [HS.out]; omega)).mono ?_
  rintro e w1 ⟨A7, n7, c7, x, er, rfl, hcv, hq, hkp⟩
  have HB1 : Hid (BlkIs w1 (w.heap.size + 1) 46 #[.string ⟨#[]⟩, .int .i64 0]) := hkp.2.trans HB.out
  have HQ1 := Lib.hid hq
  clear hq hkp HX
  obtain ⟨sx, hsx⟩ : ∃ sx, Go.Proofs.Ytodnckflobefpaa.S x = sx := ⟨_, rfl⟩
  have b0 := ans_set HB1.out sx er
  have HSX := Lib.hid hsx
  have B0 := Lib.hid b0
  rw [hsx] at hcv
  clear hsx b0
  have f0 := HB1.out.frozen 0
  have f1 := HB1.out.frozen 1
  have e0 := HB1.out.cell 0
  have e1 := HB1.out.cell 1
  simp only [List.getElem?_toArray, List.getElem?_cons_zero, List.getElem?_cons_succ] at e0 e1
  go_wp2
  obtain ⟨b1, b2⟩ := B0.out
  refine bodyPost_ret (ans_results _ _ (w.heap.size + 1) x er (by rw [HSX.out]; exact b1) rfl) rfl ?_
  exact ⟨x, er, rfl, HQ.out _ _ _ _ HQ1.out b2 HB1.out.lt⟩

set_option maxRecDepth 100000 in
set_option maxHeartbeats 4000000 in
theorem call_1 (w : World) (R : Value) (a : Ac) (hk1 : -9223372036854775808 ≤ a.K) (hk2 : a.K ≤ 9223372036854775807) (hk : pickOf a.K 10 = 1) (b : Str) (hb : Arg w a.A a.n a.c b) (hn : a.n ≤ 3000) (Q : Str → Int → World → Prop)
    (hX : ∀ W W2 j c2, Nx w W → w.heap.size + 1 < W.heap.size → Nx W W2 → Own W2 W.heap.size (some ⟨j, 0, none⟩) a.n c2 b → Calls Try.prog 11 #[R, .string (S a.p), .slice (some ⟨j, 0, none⟩) a.n c2] W2 fun e w' => ∃ er, e = .returned (.int .i64 er) ∧ Q [] er w' ∧ Kept2 w.heap.size W2 w')
    (hQ : ∀ x er W W', Q x er W → Chd (fun j => j = w.heap.size + 1) W W' → w.heap.size + 1 < W.heap.size → Q x er W') :
    Calls Try.prog 22 #[R, .agg a.cs] w fun e w' => ∃ x er, e = .returned (Ans x er) ∧ Q x er w' := by
  have P := Lib.hid (pick_any a.K 10 (Two w a) (by omega) (by omega) hk1 hk2)
  rw [hk] at P
  have HX := Lib.hid hX
  have HQ := Lib.hid hQ
  have HA := Lib.hid (two_a w a)
  have HB := Lib.hid (two_b w a)
  have HN := Lib.hid (two_nx w a)
  have HS := Lib.hid (two_size w a)
  clear hX hQ hk hk1 hk2
  obtain ⟨K, p, q, A, n, c, N, A4, n4, c4⟩ := a
  simp only [Two, Ac.cs] at *
  have dc : ∀ f, _ = _ := fun f => HA.out.cell f
  have d0 := dc 0
  have d1 := dc 1
  have d2 := dc 2
  have d3 := dc 3
  have d4 := dc 4
  have d5 := dc 5
  simp only [List.getElem?_toArray, List.getElem?_cons_zero, List.getElem?_cons_succ] at d0 d1 d2 d3 d4 d5
  clear dc
  generalize hsp : S p = sp at *
  generalize hsq : S q = sq at *
  go_enter Try.func22, Try.ntmps22
  go_wp2_with fail
  refine P.out.mono ?_
  rintro e w1 ⟨rfl, rfl⟩
  clear P
  have hS : Hid (∀ W, BlkIs W w.heap.size 39 #[.int .i64 K, .string sp, .string sq, .slice A n c, .int .i64 N, .slice A4 n4 c4] → (fun W => W.cell? ⟨w.heap.size, 1, none⟩ = some (.string sp) ∧ W.cell? ⟨w.heap.size, 3, none⟩ = some (.slice A n c)) W) := fun W h => ⟨by rw [h.cell 1]; rfl, by rw [h.cell 3]; rfl⟩
  try simp only at hb hn
  have OA : Hid (∀ W, Nx w W → _) := fun W hx => own_any2 W A n c b (hb.nx hx) (by omega)
  clear hb
  go_upto_region 5 with fail
  refine wp_region_held_drew (S := (fun W => W.cell? ⟨w.heap.size, 1, none⟩ = some (.string sp) ∧ W.cell? ⟨w.heap.size, 3, none⟩ = some (.slice A n c))) (by kernel_rfl) (hS.out _ (HA.out.drew)) (fun hHeld => ?_)
  change wpAnyH _ _ _ _ _ 9 (Array.replicate 9 false) _ _
  refine wpAnyH_take (i := 0) (oi := { dst := some 19, op := Op.move (Operand.tmp 0), type := 22, pos := "law.go:109", after := #[], guard := none }) (v := ?vr10) rfl (by kernel_rfl) (by kernel_rfl) (by kernel_rfl) (fun _ _ _ h => h) (Or.inl ⟨by rfl, ?hyr10⟩) hHeld ?restr10
  case hyr10 =>
    intro W hSw
    go_simp
    try with_reducible rfl
  try simp only [Act.put, List.setIfInBounds_toArray, List.set_cons_zero, List.set_cons_succ]
  refine wpAnyH_take (i := 1) (oi := { dst := some 20, op := Op.fieldAddr 39 (Operand.tmp 3) 1, type := 0, pos := "law.go:109", after := #[], guard := none }) (v := ?vr11) rfl (by kernel_rfl) (by kernel_rfl) (by kernel_rfl) (fun _ _ _ h => h) (Or.inl ⟨by rfl, ?hyr11⟩) hHeld ?restr11
  case hyr11 =>
    intro W hSw
    go_simp
    try with_reducible rfl
  try simp only [Act.put, List.setIfInBounds_toArray, List.set_cons_zero, List.set_cons_succ]
  refine wpAnyH_take (i := 2) (oi := { dst := some 21, op := Op.load 9 (Operand.tmp 20), type := 9, pos := "law.go:109", after := #[{ on := 1, ground := Ground.data }], guard := none }) (v := ?vr12) rfl (by kernel_rfl) (by kernel_rfl) (by kernel_rfl) (fun _ _ _ h => h) (Or.inl ⟨by rfl, ?hyr12⟩) hHeld ?restr12
  case hyr12 =>
    intro W hSw
    have s1 := hSw.1
    go_simp
    try with_reducible rfl
  try simp only [Act.put, List.setIfInBounds_toArray, List.set_cons_zero, List.set_cons_succ]
  refine wpAnyH_take (i := 3) (oi := { dst := some 22, op := Op.fieldAddr 39 (Operand.tmp 3) 3, type := 0, pos := "law.go:109", after := #[], guard := none }) (v := ?vr13) rfl (by kernel_rfl) (by kernel_rfl) (by kernel_rfl) (fun _ _ _ h => h) (Or.inl ⟨by rfl, ?hyr13⟩) hHeld ?restr13
  case hyr13 =>
    intro W hSw
    go_simp
    try with_reducible rfl
  try simp only [Act.put, List.setIfInBounds_toArray, List.set_cons_zero, List.set_cons_succ]
  refine wpAnyH_take (i := 4) (oi := { dst := some 23, op := Op.load 29 (Operand.tmp 22), type := 29, pos := "law.go:109", after := #[{ on := 3, ground := Ground.data }], guard := none }) (v := ?vr14) rfl (by kernel_rfl) (by kernel_rfl) (by kernel_rfl) (fun _ _ _ h => h) (Or.inl ⟨by rfl, ?hyr14⟩) hHeld ?restr14
  case hyr14 =>
    intro W hSw
    have s1 := hSw.2
    go_simp
    try with_reducible rfl
  try simp only [Act.put, List.setIfInBounds_toArray, List.set_cons_zero, List.set_cons_succ]
  refine wpAnyH_ready (rs := [5]) (by kernel_rfl) (by simp) ?_
  refine AllReadyH.cons (o := { dst := some 24, op := Op.call { callee := Callee.value (Operand.func 26), args := #[Operand.tmp 23], argTypes := #[29] }, type := 29, pos := "law.go:109", after := #[{ on := 4, ground := Ground.data }], guard := none }) rfl (fun K' hK => ?_) AllReadyH.nil
  go_simp
  refine (OA.out _ (Nx.drew HN.out)).mono ?_
  rintro e w2 ⟨j, c2, rfl, ho, hx⟩
  have HO := Lib.hid ho
  have HX2 := Lib.hid hx
  have HA2 : Hid (BlkIs w2 w.heap.size 39 #[.int .i64 K, .string sp, .string sq, .slice A n c, .int .i64 N, .slice A4 n4 c4]) := (HA.out.drew).nx hx
  have HB2 : Hid (BlkIs w2 (w.heap.size + 1) 46 #[.string ⟨#[]⟩, .int .i64 0]) := (HB.out.drew).nx hx
  clear ho hx
  show K' _ w2
  refine hK.out _ _ (hS.out _ HA2.out) (fun hHeld => ?_)
  clear hK K'
  try simp only [Act.put, List.setIfInBounds_toArray, List.set_cons_zero, List.set_cons_succ]
  refine wpAnyH_ready (rs := [6]) (by kernel_rfl) (by simp) ?_
  refine AllReadyH.cons (o := { dst := some 25, op := Op.call { callee := Callee.value (Operand.func 11), args := #[Operand.tmp 19, Operand.tmp 21, Operand.tmp 24], argTypes := #[22, 9, 29] }, type := 23, pos := "law.go:109", after := #[{ on := 0, ground := Ground.data }, { on := 2, ground := Ground.data }, { on := 5, ground := Ground.data }, { on := 5, ground := Ground.chain }], guard := none }) rfl (fun K' hK => ?_) AllReadyH.nil
  go_simp
  refine (HX.out _ w2 j c2 (Nx.drew HN.out) (by have := HS.out; simp only [World.size_drew]; omega) HX2.out HO.out).mono ?_
  rintro e w3 ⟨er, rfl, hq, hkp⟩
  have HB1 : Hid (BlkIs w3 (w.heap.size + 1) 46 #[.string ⟨#[]⟩, .int .i64 0]) := hkp.2.trans HB2.out
  have HA1 : Hid (BlkIs w3 w.heap.size 39 #[.int .i64 K, .string sp, .string sq, .slice A n c, .int .i64 N, .slice A4 n4 c4]) := hkp.1.trans HA2.out
  have HQ1 := Lib.hid hq
  have B0 := Lib.hid (ans_set HB1.out ⟨#[]⟩ er)
  have f0 := HB1.out.frozen 0
  have f1 := HB1.out.frozen 1
  have e0 := HB1.out.cell 0
  have e1 := HB1.out.cell 1
  simp only [List.getElem?_toArray, List.getElem?_cons_zero, List.getElem?_cons_succ] at e0 e1
  clear hq hkp
  show K' _ w3
  refine hK.out _ _ (hS.out _ HA1.out) (fun hHeld => ?_)
  clear hK K'
  try simp only [Act.put, List.setIfInBounds_toArray, List.set_cons_zero, List.set_cons_succ]
  refine wpAnyH_take (i := 7) (oi := { dst := some 26, op := Op.build 46 #[(0, Operand.const (Value.string { data := #[] })), (1, Operand.tmp 25)], type := 46, pos := "law.go:109", after := #[{ on := 6, ground := Ground.data }], guard := none }) (v := ?vr17) rfl (by kernel_rfl) (by kernel_rfl) (by kernel_rfl) (fun _ _ _ h => h) (Or.inl ⟨by rfl, ?hyr17⟩) hHeld ?restr17
  case hyr17 =>
    intro W hSw
    go_simp
    try with_reducible rfl
  try simp only [Act.put, List.setIfInBounds_toArray, List.set_cons_zero, List.set_cons_succ]
  refine wpAnyH_ready (rs := [8]) (by kernel_rfl) (by simp) ?_
  refine AllReadyH.cons (o := { dst := none, op := Op.store 46 (Operand.tmp 4) (Operand.tmp 26), type := 0, pos := "law.go:109", after := #[{ on := 7, ground := Ground.data }, { on := 6, ground := Ground.chain }, { on := 0, ground := Ground.phase }, { on := 1, ground := Ground.phase }, { on := 2, ground := Ground.phase }, { on := 3, ground := Ground.phase }, { on := 4, ground := Ground.phase }, { on := 5, ground := Ground.phase }, { on := 6, ground := Ground.phase }, { on := 7, ground := Ground.phase }], guard := none }) rfl (fun K' hK => ?_) AllReadyH.nil
  go_simp
  refine hK.out _ _ (hS.out _ (HA1.out.chd B0.out.2 (by omega))) (fun hHeld => ?_)
  clear hK K'
  try simp only [Act.put]
  refine wpAnyH_done (by kernel_rfl) ?_ _
  clear hHeld
  go_wp2
  refine bodyPost_ret (ans_results _ _ (w.heap.size + 1) [] er B0.out.1 rfl) rfl ?_
  exact ⟨[], er, rfl, HQ.out _ _ _ _ HQ1.out B0.out.2 HB1.out.lt⟩

set_option maxRecDepth 100000 in
set_option maxHeartbeats 4000000 in
theorem call_2 (w : World) (R : Value) (a : Ac) (hk1 : -9223372036854775808 ≤ a.K) (hk2 : a.K ≤ 9223372036854775807) (hk : pickOf a.K 10 = 2) (b : Str) (hb : Arg w a.A a.n a.c b) (hn : a.n ≤ 3000) (Q : Str → Int → World → Prop)
    (hX : ∀ W W2 j c2, Nx w W → w.heap.size + 1 < W.heap.size → Nx W W2 → Own W2 W.heap.size (some ⟨j, 0, none⟩) a.n c2 b → Calls Try.prog 28 #[R, .string (S a.p), .slice (some ⟨j, 0, none⟩) a.n c2] W2 fun e w' => ∃ er, e = .returned (.int .i64 er) ∧ Q [] er w' ∧ Kept2 w.heap.size W2 w')
    (hQ : ∀ x er W W', Q x er W → Chd (fun j => j = w.heap.size + 1) W W' → w.heap.size + 1 < W.heap.size → Q x er W') :
    Calls Try.prog 22 #[R, .agg a.cs] w fun e w' => ∃ x er, e = .returned (Ans x er) ∧ Q x er w' := by
  have P := Lib.hid (pick_any a.K 10 (Two w a) (by omega) (by omega) hk1 hk2)
  rw [hk] at P
  have HX := Lib.hid hX
  have HQ := Lib.hid hQ
  have HA := Lib.hid (two_a w a)
  have HB := Lib.hid (two_b w a)
  have HN := Lib.hid (two_nx w a)
  have HS := Lib.hid (two_size w a)
  clear hX hQ hk hk1 hk2
  obtain ⟨K, p, q, A, n, c, N, A4, n4, c4⟩ := a
  simp only [Two, Ac.cs] at *
  have dc : ∀ f, _ = _ := fun f => HA.out.cell f
  have d0 := dc 0
  have d1 := dc 1
  have d2 := dc 2
  have d3 := dc 3
  have d4 := dc 4
  have d5 := dc 5
  simp only [List.getElem?_toArray, List.getElem?_cons_zero, List.getElem?_cons_succ] at d0 d1 d2 d3 d4 d5
  clear dc
  generalize hsp : S p = sp at *
  generalize hsq : S q = sq at *
  go_enter Try.func22, Try.ntmps22
  go_wp2_with fail
  refine P.out.mono ?_
  rintro e w1 ⟨rfl, rfl⟩
  clear P
  have hS : Hid (∀ W, BlkIs W w.heap.size 39 #[.int .i64 K, .string sp, .string sq, .slice A n c, .int .i64 N, .slice A4 n4 c4] → (fun W => W.cell? ⟨w.heap.size, 1, none⟩ = some (.string sp) ∧ W.cell? ⟨w.heap.size, 3, none⟩ = some (.slice A n c)) W) := fun W h => ⟨by rw [h.cell 1]; rfl, by rw [h.cell 3]; rfl⟩
  try simp only at hb hn
  have OA : Hid (∀ W, Nx w W → _) := fun W hx => own_any2 W A n c b (hb.nx hx) (by omega)
  clear hb
  go_upto_region 7 with fail
  refine wp_region_held_drew (S := (fun W => W.cell? ⟨w.heap.size, 1, none⟩ = some (.string sp) ∧ W.cell? ⟨w.heap.size, 3, none⟩ = some (.slice A n c))) (by kernel_rfl) (hS.out _ (HA.out.drew)) (fun hHeld => ?_)
  change wpAnyH _ _ _ _ _ 9 (Array.replicate 9 false) _ _
  refine wpAnyH_take (i := 0) (oi := { dst := some 29, op := Op.move (Operand.tmp 0), type := 22, pos := "law.go:111", after := #[], guard := none }) (v := ?vr20) rfl (by kernel_rfl) (by kernel_rfl) (by kernel_rfl) (fun _ _ _ h => h) (Or.inl ⟨by rfl, ?hyr20⟩) hHeld ?restr20
  case hyr20 =>
    intro W hSw
    go_simp
    try with_reducible rfl
  try simp only [Act.put, List.setIfInBounds_toArray, List.set_cons_zero, List.set_cons_succ]
  refine wpAnyH_take (i := 1) (oi := { dst := some 30, op := Op.fieldAddr 39 (Operand.tmp 3) 1, type := 0, pos := "law.go:111", after := #[], guard := none }) (v := ?vr21) rfl (by kernel_rfl) (by kernel_rfl) (by kernel_rfl) (fun _ _ _ h => h) (Or.inl ⟨by rfl, ?hyr21⟩) hHeld ?restr21
  case hyr21 =>
    intro W hSw
    go_simp
    try with_reducible rfl
  try simp only [Act.put, List.setIfInBounds_toArray, List.set_cons_zero, List.set_cons_succ]
  refine wpAnyH_take (i := 2) (oi := { dst := some 31, op := Op.load 9 (Operand.tmp 30), type := 9, pos := "law.go:111", after := #[{ on := 1, ground := Ground.data }], guard := none }) (v := ?vr22) rfl (by kernel_rfl) (by kernel_rfl) (by kernel_rfl) (fun _ _ _ h => h) (Or.inl ⟨by rfl, ?hyr22⟩) hHeld ?restr22
  case hyr22 =>
    intro W hSw
    have s1 := hSw.1
    go_simp
    try with_reducible rfl
  try simp only [Act.put, List.setIfInBounds_toArray, List.set_cons_zero, List.set_cons_succ]
  refine wpAnyH_take (i := 3) (oi := { dst := some 32, op := Op.fieldAddr 39 (Operand.tmp 3) 3, type := 0, pos := "law.go:111", after := #[], guard := none }) (v := ?vr23) rfl (by kernel_rfl) (by kernel_rfl) (by kernel_rfl) (fun _ _ _ h => h) (Or.inl ⟨by rfl, ?hyr23⟩) hHeld ?restr23
  case hyr23 =>
    intro W hSw
    go_simp
    try with_reducible rfl
  try simp only [Act.put, List.setIfInBounds_toArray, List.set_cons_zero, List.set_cons_succ]
  refine wpAnyH_take (i := 4) (oi := { dst := some 33, op := Op.load 29 (Operand.tmp 32), type := 29, pos := "law.go:111", after := #[{ on := 3, ground := Ground.data }], guard := none }) (v := ?vr24) rfl (by kernel_rfl) (by kernel_rfl) (by kernel_rfl) (fun _ _ _ h => h) (Or.inl ⟨by rfl, ?hyr24⟩) hHeld ?restr24
  case hyr24 =>
    intro W hSw
    have s1 := hSw.2
    go_simp
    try with_reducible rfl
  try simp only [Act.put, List.setIfInBounds_toArray, List.set_cons_zero, List.set_cons_succ]
  refine wpAnyH_ready (rs := [5]) (by kernel_rfl) (by simp) ?_
  refine AllReadyH.cons (o := { dst := some 34, op := Op.call { callee := Callee.value (Operand.func 26), args := #[Operand.tmp 33], argTypes := #[29] }, type := 29, pos := "law.go:111", after := #[{ on := 4, ground := Ground.data }], guard := none }) rfl (fun K' hK => ?_) AllReadyH.nil
  go_simp
  refine (OA.out _ (Nx.drew HN.out)).mono ?_
  rintro e w2 ⟨j, c2, rfl, ho, hx⟩
  have HO := Lib.hid ho
  have HX2 := Lib.hid hx
  have HA2 : Hid (BlkIs w2 w.heap.size 39 #[.int .i64 K, .string sp, .string sq, .slice A n c, .int .i64 N, .slice A4 n4 c4]) := (HA.out.drew).nx hx
  have HB2 : Hid (BlkIs w2 (w.heap.size + 1) 46 #[.string ⟨#[]⟩, .int .i64 0]) := (HB.out.drew).nx hx
  clear ho hx
  show K' _ w2
  refine hK.out _ _ (hS.out _ HA2.out) (fun hHeld => ?_)
  clear hK K'
  try simp only [Act.put, List.setIfInBounds_toArray, List.set_cons_zero, List.set_cons_succ]
  refine wpAnyH_ready (rs := [6]) (by kernel_rfl) (by simp) ?_
  refine AllReadyH.cons (o := { dst := some 35, op := Op.call { callee := Callee.value (Operand.func 28), args := #[Operand.tmp 29, Operand.tmp 31, Operand.tmp 34], argTypes := #[22, 9, 29] }, type := 23, pos := "law.go:111", after := #[{ on := 0, ground := Ground.data }, { on := 2, ground := Ground.data }, { on := 5, ground := Ground.data }, { on := 5, ground := Ground.chain }], guard := none }) rfl (fun K' hK => ?_) AllReadyH.nil
  go_simp
  refine (HX.out _ w2 j c2 (Nx.drew HN.out) (by have := HS.out; simp only [World.size_drew]; omega) HX2.out HO.out).mono ?_
  rintro e w3 ⟨er, rfl, hq, hkp⟩
  have HB1 : Hid (BlkIs w3 (w.heap.size + 1) 46 #[.string ⟨#[]⟩, .int .i64 0]) := hkp.2.trans HB2.out
  have HA1 : Hid (BlkIs w3 w.heap.size 39 #[.int .i64 K, .string sp, .string sq, .slice A n c, .int .i64 N, .slice A4 n4 c4]) := hkp.1.trans HA2.out
  have HQ1 := Lib.hid hq
  have B0 := Lib.hid (ans_set HB1.out ⟨#[]⟩ er)
  have f0 := HB1.out.frozen 0
  have f1 := HB1.out.frozen 1
  have e0 := HB1.out.cell 0
  have e1 := HB1.out.cell 1
  simp only [List.getElem?_toArray, List.getElem?_cons_zero, List.getElem?_cons_succ] at e0 e1
  clear hq hkp
  show K' _ w3
  refine hK.out _ _ (hS.out _ HA1.out) (fun hHeld => ?_)
  clear hK K'
  try simp only [Act.put, List.setIfInBounds_toArray, List.set_cons_zero, List.set_cons_succ]
  refine wpAnyH_take (i := 7) (oi := { dst := some 36, op := Op.build 46 #[(0, Operand.const (Value.string { data := #[] })), (1, Operand.tmp 35)], type := 46, pos := "law.go:111", after := #[{ on := 6, ground := Ground.data }], guard := none }) (v := ?vr27) rfl (by kernel_rfl) (by kernel_rfl) (by kernel_rfl) (fun _ _ _ h => h) (Or.inl ⟨by rfl, ?hyr27⟩) hHeld ?restr27
  case hyr27 =>
    intro W hSw
    go_simp
    try with_reducible rfl
  try simp only [Act.put, List.setIfInBounds_toArray, List.set_cons_zero, List.set_cons_succ]
  refine wpAnyH_ready (rs := [8]) (by kernel_rfl) (by simp) ?_
  refine AllReadyH.cons (o := { dst := none, op := Op.store 46 (Operand.tmp 4) (Operand.tmp 36), type := 0, pos := "law.go:111", after := #[{ on := 7, ground := Ground.data }, { on := 6, ground := Ground.chain }, { on := 0, ground := Ground.phase }, { on := 1, ground := Ground.phase }, { on := 2, ground := Ground.phase }, { on := 3, ground := Ground.phase }, { on := 4, ground := Ground.phase }, { on := 5, ground := Ground.phase }, { on := 6, ground := Ground.phase }, { on := 7, ground := Ground.phase }], guard := none }) rfl (fun K' hK => ?_) AllReadyH.nil
  go_simp
  refine hK.out _ _ (hS.out _ (HA1.out.chd B0.out.2 (by omega))) (fun hHeld => ?_)
  clear hK K'
  try simp only [Act.put]
  refine wpAnyH_done (by kernel_rfl) ?_ _
  clear hHeld
  go_wp2
  refine bodyPost_ret (ans_results _ _ (w.heap.size + 1) [] er B0.out.1 rfl) rfl ?_
  exact ⟨[], er, rfl, HQ.out _ _ _ _ HQ1.out B0.out.2 HB1.out.lt⟩

set_option maxRecDepth 100000 in
set_option maxHeartbeats 4000000 in
theorem call_8 (w : World) (R : Value) (a : Ac) (hk1 : -9223372036854775808 ≤ a.K) (hk2 : a.K ≤ 9223372036854775807) (hk : pickOf a.K 10 = 8) (ps : List Int) (hb : Nums w a.A4 a.n4 a.c4 ps) (Q : Str → Int → World → Prop)
    (hX : ∀ W W2 A2 c2, Nx w W → w.heap.size + 1 < W.heap.size → Nx W W2 → Nums W2 A2 a.n4 c2 ps → (∀ j o, A2 = some ⟨j, o, none⟩ → W.heap.size ≤ j) → Calls Try.prog 14 #[R, .int .i64 a.N, .slice A2 a.n4 c2] W2 fun e w' => ∃ er, e = .returned (.int .i64 er) ∧ Q [] er w' ∧ Kept2 w.heap.size W2 w')
    (hQ : ∀ x er W W', Q x er W → Chd (fun j => j = w.heap.size + 1) W W' → w.heap.size + 1 < W.heap.size → Q x er W') :
    Calls Try.prog 22 #[R, .agg a.cs] w fun e w' => ∃ x er, e = .returned (Ans x er) ∧ Q x er w' := by
  have P := Lib.hid (pick_any a.K 10 (Two w a) (by omega) (by omega) hk1 hk2)
  rw [hk] at P
  have HX := Lib.hid hX
  have HQ := Lib.hid hQ
  have HA := Lib.hid (two_a w a)
  have HB := Lib.hid (two_b w a)
  have HN := Lib.hid (two_nx w a)
  have HS := Lib.hid (two_size w a)
  clear hX hQ hk hk1 hk2
  obtain ⟨K, p, q, A, n, c, N, A4, n4, c4⟩ := a
  simp only [Two, Ac.cs] at *
  have dc : ∀ f, _ = _ := fun f => HA.out.cell f
  have d0 := dc 0
  have d1 := dc 1
  have d2 := dc 2
  have d3 := dc 3
  have d4 := dc 4
  have d5 := dc 5
  simp only [List.getElem?_toArray, List.getElem?_cons_zero, List.getElem?_cons_succ] at d0 d1 d2 d3 d4 d5
  clear dc
  generalize hsp : S p = sp at *
  generalize hsq : S q = sq at *
  go_enter Try.func22, Try.ntmps22
  go_wp2_with fail
  refine P.out.mono ?_
  rintro e w1 ⟨rfl, rfl⟩
  clear P
  have hS : Hid (∀ W, BlkIs W w.heap.size 39 #[.int .i64 K, .string sp, .string sq, .slice A n c, .int .i64 N, .slice A4 n4 c4] → (fun W => W.cell? ⟨w.heap.size, 4, none⟩ = some (.int .i64 N) ∧ W.cell? ⟨w.heap.size, 5, none⟩ = some (.slice A4 n4 c4)) W) := fun W h => ⟨by rw [h.cell 4]; rfl, by rw [h.cell 5]; rfl⟩
  try simp only at hb
  have HP := Lib.hid hb
  clear hb
  go_upto_region 19 with fail
  refine wp_region_held_drew (S := (fun W => W.cell? ⟨w.heap.size, 4, none⟩ = some (.int .i64 N) ∧ W.cell? ⟨w.heap.size, 5, none⟩ = some (.slice A4 n4 c4))) (by kernel_rfl) (hS.out _ (HA.out.drew)) (fun hHeld => ?_)
  change wpAnyH _ _ _ _ _ 10 (Array.replicate 10 false) _ _
  refine wpAnyH_take (i := 0) (oi := { dst := some 74, op := Op.move (Operand.tmp 0), type := 22, pos := "law.go:123", after := #[], guard := none }) (v := ?vr80) rfl (by kernel_rfl) (by kernel_rfl) (by kernel_rfl) (fun _ _ _ h => h) (Or.inl ⟨by rfl, ?hyr80⟩) hHeld ?restr80
  case hyr80 =>
    intro W hSw
    go_simp
    try with_reducible rfl
  try simp only [Act.put, List.setIfInBounds_toArray, List.set_cons_zero, List.set_cons_succ]
  refine wpAnyH_take (i := 1) (oi := { dst := some 75, op := Op.fieldAddr 39 (Operand.tmp 3) 4, type := 0, pos := "law.go:123", after := #[], guard := none }) (v := ?vr81) rfl (by kernel_rfl) (by kernel_rfl) (by kernel_rfl) (fun _ _ _ h => h) (Or.inl ⟨by rfl, ?hyr81⟩) hHeld ?restr81
  case hyr81 =>
    intro W hSw
    go_simp
    try with_reducible rfl
  try simp only [Act.put, List.setIfInBounds_toArray, List.set_cons_zero, List.set_cons_succ]
  refine wpAnyH_take (i := 2) (oi := { dst := some 76, op := Op.load 3 (Operand.tmp 75), type := 3, pos := "law.go:123", after := #[{ on := 1, ground := Ground.data }], guard := none }) (v := ?vr82) rfl (by kernel_rfl) (by kernel_rfl) (by kernel_rfl) (fun _ _ _ h => h) (Or.inl ⟨by rfl, ?hyr82⟩) hHeld ?restr82
  case hyr82 =>
    intro W hSw
    have s1 := hSw.1
    go_simp
    try with_reducible rfl
  try simp only [Act.put, List.setIfInBounds_toArray, List.set_cons_zero, List.set_cons_succ]
  refine wpAnyH_take (i := 4) (oi := { dst := some 78, op := Op.fieldAddr 39 (Operand.tmp 3) 5, type := 0, pos := "law.go:123", after := #[], guard := none }) (v := ?vr84) rfl (by kernel_rfl) (by kernel_rfl) (by kernel_rfl) (fun _ _ _ h => h) (Or.inl ⟨by rfl, ?hyr84⟩) hHeld ?restr84
  case hyr84 =>
    intro W hSw
    go_simp
    try with_reducible rfl
  try simp only [Act.put, List.setIfInBounds_toArray, List.set_cons_zero, List.set_cons_succ]
  refine wpAnyH_take (i := 5) (oi := { dst := some 79, op := Op.load 37 (Operand.tmp 78), type := 37, pos := "law.go:123", after := #[{ on := 4, ground := Ground.data }], guard := none }) (v := ?vr85) rfl (by kernel_rfl) (by kernel_rfl) (by kernel_rfl) (fun _ _ _ h => h) (Or.inl ⟨by rfl, ?hyr85⟩) hHeld ?restr85
  case hyr85 =>
    intro W hSw
    have s1 := hSw.2
    go_simp
    try with_reducible rfl
  try simp only [Act.put, List.setIfInBounds_toArray, List.set_cons_zero, List.set_cons_succ]
  refine wpAnyH_ready (rs := [3]) (by kernel_rfl) (by simp) ?_
  refine AllReadyH.cons (o := { dst := some 77, op := Op.buildSlice 37 0 #[], type := 37, pos := "law.go:123", after := #[], guard := none }) rfl (fun K' hK => ?_) AllReadyH.nil
  go_simp
  refine hK.out _ _ (hS.out _ (HA.out.drew.alloc _)) (fun hHeld => ?_)
  clear hK K'
  try simp only [Act.put, List.setIfInBounds_toArray, List.set_cons_zero, List.set_cons_succ]
  refine wpAnyH_ready (rs := [6]) (by kernel_rfl) (by simp) ?_
  refine AllReadyH.cons (o := { dst := some 80, op := Op.call { callee := Callee.builtin Builtin.append, args := #[Operand.tmp 77, Operand.tmp 79], argTypes := #[37, 37] }, type := 37, pos := "law.go:123", after := #[{ on := 3, ground := Ground.data }, { on := 5, ground := Ground.data }], guard := none }) rfl (fun K' hK => ?_) AllReadyH.nil
  refine wp_ints_copy (.tmp 77) (.tmp 79) rfl (by show Value.slice _ _ _ = _; rw [World.size_drew, World.size_alloc, World.size_alloc]) A4 n4 c4 ps rfl (HP.out.nx (Nx.drew HN.out)) ?_
  intro A2 c2 w2 hN hA hx
  have HN2 := Lib.hid hN
  have HG2 := Lib.hid hA
  have HX2 := Lib.hid hx
  have HA2 : Hid (BlkIs w2 w.heap.size 39 #[.int .i64 K, .string sp, .string sq, .slice A n c, .int .i64 N, .slice A4 n4 c4]) := (HA.out.drew).nx hx
  have HB2 : Hid (BlkIs w2 (w.heap.size + 1) 46 #[.string ⟨#[]⟩, .int .i64 0]) := (HB.out.drew).nx hx
  clear hN hA hx
  refine hK.out _ _ (hS.out _ HA2.out) (fun hHeld => ?_)
  clear hK K'
  try simp only [Act.put, List.setIfInBounds_toArray, List.set_cons_zero, List.set_cons_succ]
  refine wpAnyH_ready (rs := [7]) (by kernel_rfl) (by simp) ?_
  refine AllReadyH.cons (o := { dst := some 81, op := Op.call { callee := Callee.value (Operand.func 14), args := #[Operand.tmp 74, Operand.tmp 76, Operand.tmp 80], argTypes := #[22, 3, 37] }, type := 23, pos := "law.go:123", after := #[{ on := 0, ground := Ground.data }, { on := 2, ground := Ground.data }, { on := 6, ground := Ground.data }, { on := 6, ground := Ground.chain }], guard := none }) rfl (fun K' hK => ?_) AllReadyH.nil
  go_simp
  refine (HX.out _ w2 A2 c2 (Nx.drew HN.out) (by have := HS.out; simp only [World.size_drew]; omega) HX2.out HN2.out HG2.out).mono ?_
  rintro e w3 ⟨er, rfl, hq, hkp⟩
  have HB1 : Hid (BlkIs w3 (w.heap.size + 1) 46 #[.string ⟨#[]⟩, .int .i64 0]) := hkp.2.trans HB2.out
  have HA1 : Hid (BlkIs w3 w.heap.size 39 #[.int .i64 K, .string sp, .string sq, .slice A n c, .int .i64 N, .slice A4 n4 c4]) := hkp.1.trans HA2.out
  have HQ1 := Lib.hid hq
  have B0 := Lib.hid (ans_set HB1.out ⟨#[]⟩ er)
  have f0 := HB1.out.frozen 0
  have f1 := HB1.out.frozen 1
  have e0 := HB1.out.cell 0
  have e1 := HB1.out.cell 1
  simp only [List.getElem?_toArray, List.getElem?_cons_zero, List.getElem?_cons_succ] at e0 e1
  clear hq hkp
  show K' _ w3
  refine hK.out _ _ (hS.out _ HA1.out) (fun hHeld => ?_)
  clear hK K'
  try simp only [Act.put, List.setIfInBounds_toArray, List.set_cons_zero, List.set_cons_succ]
  refine wpAnyH_take (i := 8) (oi := { dst := some 82, op := Op.build 46 #[(0, Operand.const (Value.string { data := #[] })), (1, Operand.tmp 81)], type := 46, pos := "law.go:123", after := #[{ on := 7, ground := Ground.data }], guard := none }) (v := ?vr88) rfl (by kernel_rfl) (by kernel_rfl) (by kernel_rfl) (fun _ _ _ h => h) (Or.inl ⟨by rfl, ?hyr88⟩) hHeld ?restr88
  case hyr88 =>
    intro W hSw
    go_simp
    try with_reducible rfl
  try simp only [Act.put, List.setIfInBounds_toArray, List.set_cons_zero, List.set_cons_succ]
  refine wpAnyH_ready (rs := [9]) (by kernel_rfl) (by simp) ?_
  refine AllReadyH.cons (o := { dst := none, op := Op.store 46 (Operand.tmp 4) (Operand.tmp 82), type := 0, pos := "law.go:123", after := #[{ on := 8, ground := Ground.data }, { on := 7, ground := Ground.chain }, { on := 0, ground := Ground.phase }, { on := 1, ground := Ground.phase }, { on := 2, ground := Ground.phase }, { on := 3, ground := Ground.phase }, { on := 4, ground := Ground.phase }, { on := 5, ground := Ground.phase }, { on := 6, ground := Ground.phase }, { on := 7, ground := Ground.phase }, { on := 8, ground := Ground.phase }], guard := none }) rfl (fun K' hK => ?_) AllReadyH.nil
  go_simp
  refine hK.out _ _ (hS.out _ (HA1.out.chd B0.out.2 (by omega))) (fun hHeld => ?_)
  clear hK K'
  try simp only [Act.put]
  refine wpAnyH_done (by kernel_rfl) ?_ _
  clear hHeld
  go_wp2
  refine bodyPost_ret (ans_results _ _ (w.heap.size + 1) [] er B0.out.1 rfl) rfl ?_
  exact ⟨[], er, rfl, HQ.out _ _ _ _ HQ1.out B0.out.2 HB1.out.lt⟩
end Go.Proofs.Ytodnckflobefpaa

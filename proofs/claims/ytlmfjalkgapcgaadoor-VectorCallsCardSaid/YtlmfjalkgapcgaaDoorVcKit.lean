/- The kit's Vector and At; the law's lives. -/
import Derived.Test.YtlmfjalkgapcgaaDoorVcTop
import Derived.BigQuiet
namespace Go.Proofs.YtlmfjalkgapcgaaDoor
open Go.RowKit
set_option linter.unusedVariables false

attribute [local go_sem] Oper.semAt_some

theorem Ct.eq_iff (p q : Ct) : p = q ↔ p.d = q.d ∧ p.n = q.n := by
  obtain ⟨a, b⟩ := p
  obtain ⟨d, e⟩ := q
  simp
theorem run_equal_ct (W : World) (p q : Ct) : (Op.equalIn 10000 29 (.agg #[.int .i64 p.d, .int .u64 p.n]) (.agg #[.int .i64 q.d, .int .u64 q.n])).run Tryd.prog W = .ok (decide (p = q)) W := by
  have hu := Tryd.underlying29
  rw [run_equalIn_struct (d := 9999) W 29 _ _ (by rw [hu]; unfold Program.fieldsOf; rw [hu]) (by kernel_rfl)]
  simp [go_sem, hu]
  by_cases h1 : p.d = q.d
  · by_cases h2 : p.n = q.n
    · rw [decide_eq_true ((Ct.eq_iff p q).2 ⟨h1, h2⟩)]
      simp [h1, h2]
    · rw [decide_eq_false fun e => h2 ((Ct.eq_iff p q).1 e).2]
      have : ¬ ((p.n : Int) = (q.n : Int)) := by omega
      simp [h1]
      exact this
  · rw [decide_eq_false fun e => h1 ((Ct.eq_iff p q).1 e).1]
    simp [h1]

set_option maxRecDepth 100000 in
theorem vector_any (w : World) (va vb : Value) (a b : List Ct) (ha : RdG ctE w va a) (hb : RdG ctE w vb b) (hn : a.length ≤ 1000000000) :
    Calls Tryd.prog 20 #[va, vb] w fun e w' => e = .returned (.bool (decide (a = b))) ∧ Nx w w' := by
  obtain ⟨A, ca, rfl⟩ := ha.form
  obtain ⟨B, cb, rfl⟩ := hb.form
  have HA := Lib.hid ha
  have HB := Lib.hid hb
  by_cases hl : a.length = b.length
  · have e1 : ((a.length : Int) == (b.length : Int)) = true := by rw [hl]; simp
    clear ha hb
    go_enter Tryd.func20, Tryd.ntmps20
    go_wp2
    go_loopg [5] a.length (fun n p5 wr => ∃ (i : Nat), p5 = .int .i64 (i : Int) ∧ Hid (i + n = a.length ∧ a.take i = b.take i ∧ ∃ q, wr = w.drewN q))
    case atStart => exact ⟨0, rfl, by omega, by simp, 0, rfl⟩
    case round =>
      obtain ⟨i, rfl, hh⟩ := hrel
      obtain ⟨hi, htk, q, hwr⟩ := hh.out
      by_cases hlt : i < a.length
      · have e2 : decide ((i : Int) < (a.length : Int)) = true := by simpa using hlt
        have e3 : (0 : Int) ≤ (i : Int) := by omega
        have e4 : (i : Int) < (a.length : Int) := by omega
        have hlt2 : i < b.length := hl ▸ hlt
        have e5 : (i : Int) < (b.length : Int) := by omega
        obtain ⟨ba, oa, rfl, x0, x1⟩ := ct_cells HA.out i hlt
        obtain ⟨bb, ob, rfl, y0, y1⟩ := ct_cells HB.out i hlt2
        have hib : i < b.length := by omega
        have hE := fun W => run_equal_ct W a[i] b[i]
        have HLL := Lib.hid hl
        have HTK := Lib.hid htk
        have HI := Lib.hid hi
        by_cases hp : a[i] = b[i]
        · rw [decide_eq_true hp] at hE
          have NXT : Hid (gk - 1 < gk ∧ i + 1 + (gk - 1) = a.length ∧ a.take (i + 1) = b.take (i + 1)) := by
            refine ⟨by omega, by omega, ?_⟩
            rw [List.take_succ_eq_append_getElem hlt, List.take_succ_eq_append_getElem hib, htk, hp]
          have hw : IntKind.i64.wrap ((i : Int) + 1) = (i : Int) + 1 := IntWalk.i64_in _ (by omega)
          generalize a[i] = pa at *
          generalize b[i] = pb at *
          clear hl htk hi hh hp hib hlt
          go_wp2_with fail
          go_quiet (fail)
          go_wp2
          go_roundg (gk - 1)
          case measure => exact NXT.out.1
          case rel => exact ⟨i + 1, by push_cast; rfl, NXT.out.2.1, NXT.out.2.2, _, rfl⟩
        · rw [decide_eq_false hp] at hE
          have FIN : Hid (decide (a = b) = false) := by
            apply decide_eq_false
            intro e
            subst e
            exact hp rfl
          generalize a[i] = pa at *
          generalize b[i] = pb at *
          clear hl htk hi hh hp hib hlt
          go_wp2_with fail
          go_quiet (fail)
          go_wp2
          go_ret
          exact ⟨by rw [FIN.out]; rfl, (Nx.drewN (Nx.refl w) _).drewN _⟩
      · have e2 : decide ((i : Int) < (a.length : Int)) = false := by simpa using hlt
        have e3 : decide (i < b.length) = false := by rw [← hl]; simpa using hlt
        have FIN : Hid (decide (a = b) = true) := by
          apply decide_eq_true
          rw [List.take_of_length_le (by omega), List.take_of_length_le (by omega)] at htk
          exact htk
        clear hh htk hi hlt
        go_wp2
        go_ret
        exact ⟨by rw [FIN.out]; rfl, Nx.drewN (Nx.refl w) _⟩
  · have e1 : ((a.length : Int) == (b.length : Int)) = false := by simpa using fun e => hl (by exact_mod_cast e)
    have FIN : Hid (decide (a = b) = false) := decide_eq_false fun e => hl (by rw [e])
    clear ha hb hl
    go_enter Tryd.func20, Tryd.ntmps20
    go_wp2
    go_ret
    exact ⟨by rw [FIN.out]; rfl, Nx.refl w⟩

def ctV (d : Int) (n : Nat) : Value := .agg #[.int .i64 d, .int .u64 n]
set_option maxRecDepth 100000 in
theorem at_any (w : World) (d : Int) (n : Nat) :
    Calls Tryd.prog 5 #[.int .i64 d, .int .u64 n] w fun e w' => e = .returned (.agg #[.int .i64 d, .int .u64 n]) ∧ Nx w w' := by
  have nb := BlkIs.new w 29 #[.int .i64 0, .int .u64 0]
  have n1 := (Nx.refl w).alloc (.cells #[.int .i64 0, .int .u64 0] 29)
  obtain ⟨W, hW⟩ : ∃ W, w.alloc (.cells #[.int .i64 0, .int .u64 0] 29) = W := ⟨_, rfl⟩
  rw [hW] at nb n1
  have c4 : W.cell? ⟨w.heap.size, 0, none⟩ = some (.int .i64 0) := by rw [nb.cell]; rfl
  have c5 : W.cell? ⟨w.heap.size, 1, none⟩ = some (.int .u64 0) := by rw [nb.cell]; rfl
  have f4 := nb.frozen 0
  have f5 := nb.frozen 1
  have FIN : Hid (BlkIs ((W.setCell ⟨w.heap.size, 0, none⟩ (.int .i64 d)).setCell ⟨w.heap.size, 1, none⟩ (.int .u64 n)) w.heap.size 29 #[.int .i64 d, .int .u64 n] ∧
      Nx w ((W.setCell ⟨w.heap.size, 0, none⟩ (.int .i64 d)).setCell ⟨w.heap.size, 1, none⟩ (.int .u64 n))) :=
    ⟨(nb.set 0 _).set 1 _, (n1.set _ _ _ (Nat.le_refl _)).set _ _ _ (Nat.le_refl _)⟩
  clear nb n1
  go_enter Tryd.func5, Tryd.ntmps5
  go_wp2
  refine bodyPost_ret (results_cell_row rfl _ _ w.heap.size 29 #[.int .i64 d, .int .u64 n] (0, 0) _ rfl FIN.out.1 Tryd.underlying29 rfl (by kernel_rfl)) rfl ?_
  exact ⟨rfl, FIN.out.2⟩

/-! ### For laws -/
theorem bump_ok (w : World) (v : Value) (l : List Ct) (d : Int) (h : RdG ctE w v l) (k : CtsOk l) (hv : vld 0 l = true) (hd : devB d = true) (hm : vl l d ≠ 18446744073709551615) :
    Calls Tryd.prog 6 #[v, .int .i64 d] w (Ret2 fun r n w' => n = 0 ∧ RwG ctE w' w.heap.size r (bmp l d) ∧ Nx w w') :=
  (bump_any w v l d h k (by have := vld_len16 hv; omega)).mono fun e w' ⟨r, n, e1, h1, h2⟩ => by
    unfold BumpR at h1
    rw [hv, hd, if_pos (by rfl), if_neg hm] at h1
    exact ⟨r, n, e1, h1.2, h1.1, h2⟩
theorem bump_bad (w : World) (v : Value) (l : List Ct) (d : Int) (h : RdG ctE w v l) (k : CtsOk l) (hv : vld 0 l = true) (hd : ¬ (devB d = true ∧ vl l d ≠ 18446744073709551615)) :
    Calls Tryd.prog 6 #[v, .int .i64 d] w (Ret2 fun r n w' => (n = 2 ∨ n = 3) ∧ r = .slice none 0 0 ∧ Nx w w') :=
  (bump_any w v l d h k (by have := vld_len16 hv; omega)).mono fun e w' ⟨r, n, e1, h1, h2⟩ => by
    unfold BumpR at h1
    rw [hv, Bool.true_and] at h1
    by_cases hdv : devB d = true
    · rw [if_pos hdv] at h1
      have : vl l d = 18446744073709551615 := by
        by_cases e : vl l d = 18446744073709551615
        · exact e
        · exact absurd ⟨hdv, e⟩ hd
      rw [if_pos this] at h1
      exact ⟨r, n, e1, .inr h1.2, h1.1, h2⟩
    · rw [if_neg hdv] at h1
      exact ⟨r, n, e1, .inl h1.2, h1.1, h2⟩
theorem merge_ok (w : World) (v : Value) (ls : List (List Ct)) (h : SlS w v ls) (hl : ls.length ≤ 1000) (hv : ∀ l ∈ ls, vld 0 l = true) :
    Calls Tryd.prog 13 #[v] w (Ret2 fun r n w' => n = 0 ∧ RwG ctE w' w.heap.size r (mgs ls) ∧ Nx w w') :=
  (merge_any w v ls h hl fun l hl => by have := vld_len16 (hv l hl); omega).mono fun e w' ⟨r, n, e1, h1, h2⟩ => by
    unfold MergeR at h1
    rw [if_pos (List.all_eq_true.2 hv)] at h1
    exact ⟨r, n, e1, h1.2, h1.1, h2⟩
/-- A literal of slices. -/
theorem sls_lit {W : World} {vs : List Value} {ls : List (List Ct)} {c : Array Value} {t : TypeId} (hc : c.toList = vs) (hl : vs.length = ls.length) (h : ∀ i (h : i < ls.length), RdG ctE W (vs[i]'(by omega)) ls[i]) :
    SlS (W.alloc (.cells c t)) (.slice (some ⟨W.heap.size, 0, none⟩) ls.length ls.length) ls :=
  ⟨_, _, _, rfl, fun i hi => ⟨vs[i]'(by omega), by
    rw [(BlkIs.new W t c).cell, Nat.zero_add, ← Array.getElem?_toList, hc, List.getElem?_eq_getElem], (h i hi).nx ((Nx.refl W).alloc _)⟩⟩
theorem sls2 {W : World} {x y : Value} {a b : List Ct} (t : TypeId) (h1 : RdG ctE W x a) (h2 : RdG ctE W y b) : SlS (W.alloc (.cells #[x, y] t)) (.slice (some ⟨W.heap.size, 0, none⟩) 2 2) [a, b] :=
  sls_lit (vs := [x, y]) (ls := [a, b]) rfl rfl fun i hi => by
    match i, hi with
    | 0, _ => exact h1
    | 1, _ => exact h2
theorem sls3 {W : World} {x y z : Value} {a b c : List Ct} (t : TypeId) (h1 : RdG ctE W x a) (h2 : RdG ctE W y b) (h3 : RdG ctE W z c) : SlS (W.alloc (.cells #[x, y, z] t)) (.slice (some ⟨W.heap.size, 0, none⟩) 3 3) [a, b, c] :=
  sls_lit (vs := [x, y, z]) (ls := [a, b, c]) rfl rfl fun i hi => by
    match i, hi with
    | 0, _ => exact h1
    | 1, _ => exact h2
    | 2, _ => exact h3
theorem sls4 {W : World} {x y z u : Value} {a b c d : List Ct} (t : TypeId) (h1 : RdG ctE W x a) (h2 : RdG ctE W y b) (h3 : RdG ctE W z c) (h4 : RdG ctE W u d) : SlS (W.alloc (.cells #[x, y, z, u] t)) (.slice (some ⟨W.heap.size, 0, none⟩) 4 4) [a, b, c, d] :=
  sls_lit (vs := [x, y, z, u]) (ls := [a, b, c, d]) rfl rfl fun i hi => by
    match i, hi with
    | 0, _ => exact h1
    | 1, _ => exact h2
    | 2, _ => exact h3
    | 3, _ => exact h4

/-! ### The examples -/
theorem ex_bump : bmp [⟨1, 2⟩] 3 = [⟨1, 2⟩, ⟨3, 1⟩] := by simp [bmp, mg, ag, vl, mx]
theorem ex_merge : mgs [[⟨1, 2⟩], [⟨1, 1⟩, ⟨3, 4⟩]] = [⟨1, 2⟩, ⟨3, 4⟩] := by simp [mgs, mg, ag, mx]
theorem ex_cp : cp [⟨1, 2⟩] [⟨1, 2⟩, ⟨3, 1⟩] = 2 := by simp [cp, ag, lessP, moreP, cpOf]
theorem ok_of {l : List Ct} (h : ∀ c ∈ l, -9223372036854775808 ≤ c.d ∧ c.d ≤ 9223372036854775807 ∧ c.n ≤ 18446744073709551615) : CtsOk l := h
theorem rd1 (W : World) (d : Int) (n : Nat) : RdG ctE (W.alloc (.cells #[.int .i64 d, .int .u64 n] 29)) (.slice (some ⟨W.heap.size, 0, none⟩) 1 1) [⟨d, n⟩] := rd_lit (E := ctE) W ⟨d, n⟩ rfl
theorem rd2 (W : World) (d e : Int) (n m : Nat) : RdG ctE (W.alloc (.cells #[.int .i64 d, .int .u64 n, .int .i64 e, .int .u64 m] 29)) (.slice (some ⟨W.heap.size, 0, none⟩) 2 2) [⟨d, n⟩, ⟨e, m⟩] :=
  (rw_lit (E := ctE) W 0 (Nat.zero_le _) [⟨d, n⟩, ⟨e, m⟩] (by unfold maxLen; simp) rfl).rd
set_option maxRecDepth 100000 in
set_option maxHeartbeats 1000000 in
theorem lives_any (w : World) : Calls Tryd.prog 7 #[] w fun e w' => e = .returned (.bool true) ∧ Nx w w' := by
  have AT := Lib.hid (fun (W : World) (d : Int) (n : Nat) => at_any W d n)
  have BU : Hid (∀ W : World, Calls Tryd.prog 6 #[.slice (some ⟨W.heap.size, 0, none⟩) 1 1, .int .i64 3] (W.alloc (.cells #[.int .i64 1, .int .u64 2] 29)) (Ret2 fun r n w' => n = 0 ∧ RdG ctE w' r [⟨1, 2⟩, ⟨3, 1⟩] ∧ Nx W w')) := fun W =>
    (bump_ok _ _ [⟨1, 2⟩] 3 (rd1 W 1 2) (ok_of (by simp)) (by decide) (by decide) (by decide)).mono fun e w' ⟨r, n, e1, h1, h2, h3⟩ => ⟨r, n, e1, h1, by rw [ex_bump] at h2; exact h2.rd, ((Nx.refl W).alloc _).trans h3⟩
  have ME : Hid (∀ W x y, RdG ctE W x [⟨1, 2⟩] → RdG ctE W y [⟨1, 1⟩, ⟨3, 4⟩] → Calls Tryd.prog 13 #[.slice (some ⟨W.heap.size, 0, none⟩) 2 2] (W.alloc (.cells #[x, y] 23)) (Ret2 fun r n w' => n = 0 ∧ RdG ctE w' r [⟨1, 2⟩, ⟨3, 4⟩] ∧ Nx W w')) := fun W x y h1 h2 =>
    (merge_ok _ _ _ (sls2 23 h1 h2) (by simp) (by simp; decide)).mono fun e w' ⟨r, n, e1, h1, h2, h3⟩ => ⟨r, n, e1, h1, by rw [ex_merge] at h2; exact h2.rd, ((Nx.refl W).alloc _).trans h3⟩
  have VE : Hid (∀ W x y (a b : List Ct), RdG ctE W x a → RdG ctE W y b → a = b → a.length ≤ 1000000000 → Calls Tryd.prog 20 #[x, y] W fun e w' => e = .returned (.bool true) ∧ Nx W w') := fun W x y a b h1 h2 e hn => by
    have := vector_any W x y a b h1 h2 hn
    rw [decide_eq_true e] at this
    exact this
  have CO : Hid (∀ W x y, RdG ctE W x [⟨1, 2⟩] → RdG ctE W y [⟨1, 2⟩, ⟨3, 1⟩] → Calls Tryd.prog 8 #[x, y] W fun e w' => e = .returned (.int .i64 2) ∧ Nx W w') := fun W x y h1 h2 => by
    have := compare_any W x y _ _ h1 h2 (by simp)
    rw [ex_cp, if_pos (by decide)] at this
    exact this
  go_enter Tryd.func7, Tryd.ntmps7
  go_wp2_with fail
  refine (AT.out _ _ 2).mono ?_
  rintro e w1 ⟨rfl, hn1⟩
  have N1 := Lib.hid hn1
  clear hn1
  go_wp2_with fail
  refine (BU.out _).mono ?_
  rintro e w2 ⟨r2, n2, rfl, rfl, hr2, hn2⟩
  have N2 := Lib.hid (N1.out.trans hn2)
  have R2 := Lib.hid hr2
  clear hn2 hr2
  go_wp2_with fail
  refine (AT.out _ _ 2).mono ?_
  rintro e w3 ⟨rfl, hn3⟩
  go_wp2_with fail
  refine (AT.out _ _ 1).mono ?_
  rintro e w4 ⟨rfl, hn4⟩
  go_wp2_with fail
  refine (AT.out _ _ 4).mono ?_
  rintro e w5 ⟨rfl, hn5⟩
  have X3 := ((rd1 w3 1 2).nx hn4).nx hn5
  have X5 := rd2 w5 1 3 1 4
  have N5 := (((N2.out.trans hn3).alloc (.cells #[.int .i64 1, .int .u64 2] 29)).trans hn4).trans hn5
  obtain ⟨V, hV⟩ : ∃ V, w5.alloc (.cells #[.int .i64 1, .int .u64 1, .int .i64 3, .int .u64 4] 29) = V := ⟨_, rfl⟩
  have nV : Nx w5 V := by rw [← hV]; exact (Nx.refl _).alloc _
  have X5 : RdG ctE V (.slice (some ⟨w5.heap.size, 0, none⟩) 2 2) [⟨1, 1⟩, ⟨3, 4⟩] := by rw [← hV]; exact X5
  have MV := Lib.hid (ME.out V _ _ (X3.nx nV) X5)
  have NV := Lib.hid (N5.trans nV)
  have R2V := Lib.hid (((((R2.out.nx hn3).nx ((Nx.refl _).alloc (.cells #[.int .i64 1, .int .u64 2] 29))).nx hn4).nx hn5).nx nV)
  clear hn3 hn4 hn5 X3 X5 N5 nV
  go_wp2_with fail
  refine MV.out.mono ?_
  rintro e w6 ⟨r6, n6, rfl, rfl, hr6, hn6⟩
  have N6 := Lib.hid (NV.out.trans hn6)
  have R6 := Lib.hid hr6
  have R26 := Lib.hid (R2V.out.nx hn6)
  clear hn6 hr6 MV R2V hV
  go_wp2_with fail
  refine (AT.out _ _ 2).mono ?_
  rintro e w7 ⟨rfl, hn7⟩
  go_wp2_with fail
  refine (AT.out _ _ 1).mono ?_
  rintro e w8 ⟨rfl, hn8⟩
  obtain ⟨V8, hV8⟩ : ∃ V, w8.alloc (.cells #[.int .i64 1, .int .u64 2, .int .i64 3, .int .u64 1] 29) = V := ⟨_, rfl⟩
  have n8 : Nx w8 V8 := by rw [← hV8]; exact (Nx.refl _).alloc _
  have X8 : RdG ctE V8 (.slice (some ⟨w8.heap.size, 0, none⟩) 2 2) [⟨1, 2⟩, ⟨3, 1⟩] := by rw [← hV8]; exact rd2 w8 1 3 2 1
  have N8 := Lib.hid (((N6.out.trans hn7).trans hn8).trans n8)
  have R28 := Lib.hid (((R26.out.nx hn7).nx hn8).nx n8)
  have R68 := Lib.hid (((R6.out.nx hn7).nx hn8).nx n8)
  have MV := Lib.hid (VE.out V8 _ _ _ _ R28.out X8 rfl (by simp))
  clear hn7 hn8 n8 X8
  go_wp2_with fail
  refine MV.out.mono ?_
  rintro e w9 ⟨rfl, hn9⟩
  have N9 := Lib.hid (N8.out.trans hn9)
  have R29 := Lib.hid (R28.out.nx hn9)
  have R69 := Lib.hid (R68.out.nx hn9)
  clear hn9 MV hV8
  go_wp2_with fail
  refine (AT.out _ _ 2).mono ?_
  rintro e w10 ⟨rfl, hn7⟩
  go_wp2_with fail
  refine (AT.out _ _ 4).mono ?_
  rintro e w11 ⟨rfl, hn8⟩
  obtain ⟨V8, hV8⟩ : ∃ V, w11.alloc (.cells #[.int .i64 1, .int .u64 2, .int .i64 3, .int .u64 4] 29) = V := ⟨_, rfl⟩
  have n8 : Nx w11 V8 := by rw [← hV8]; exact (Nx.refl _).alloc _
  have X8 : RdG ctE V8 (.slice (some ⟨w11.heap.size, 0, none⟩) 2 2) [⟨1, 2⟩, ⟨3, 4⟩] := by rw [← hV8]; exact rd2 w11 1 3 2 4
  have N11 := Lib.hid (((N9.out.trans hn7).trans hn8).trans n8)
  have R211 := Lib.hid (((R29.out.nx hn7).nx hn8).nx n8)
  have R611 := Lib.hid (((R69.out.nx hn7).nx hn8).nx n8)
  have MV := Lib.hid (VE.out V8 _ _ _ _ R611.out X8 rfl (by simp))
  clear hn7 hn8 n8 X8
  go_wp2_with fail
  refine MV.out.mono ?_
  rintro e w12 ⟨rfl, hn9⟩
  have N12 := Lib.hid (N11.out.trans hn9)
  have R212 := Lib.hid (R211.out.nx hn9)
  clear hn9 MV hV8
  go_wp2_with fail
  refine (AT.out _ _ 2).mono ?_
  rintro e w13 ⟨rfl, hn7⟩
  obtain ⟨V8, hV8⟩ : ∃ V, w13.alloc (.cells #[.int .i64 1, .int .u64 2] 29) = V := ⟨_, rfl⟩
  have n8 : Nx w13 V8 := by rw [← hV8]; exact (Nx.refl _).alloc _
  have X8 : RdG ctE V8 (.slice (some ⟨w13.heap.size, 0, none⟩) 1 1) [⟨1, 2⟩] := by rw [← hV8]; exact rd1 w13 1 2
  have N13 := Lib.hid ((N12.out.trans hn7).trans n8)
  have MV := Lib.hid (CO.out V8 _ _ X8 ((R212.out.nx hn7).nx n8))
  clear hn7 n8 X8
  go_wp2_with fail
  refine MV.out.mono ?_
  rintro e w14 ⟨rfl, hn9⟩
  have N14 := Lib.hid (N13.out.trans hn9)
  clear hn9 MV hV8
  go_wp2
  go_ret
  exact ⟨rfl, N14.out⟩
end Go.Proofs.YtlmfjalkgapcgaaDoor

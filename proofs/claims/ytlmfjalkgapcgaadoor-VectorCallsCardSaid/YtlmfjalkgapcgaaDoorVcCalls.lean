/- The law VectorCalls. -/
import Derived.Test.YtlmfjalkgapcgaaDoorVcText
import Derived.Test.YtlmfjalkgapcgaaDoorVrE
import Derived.Test.YtlmfjalkgapcgaaDoorVrG
import Derived.Test.YtlmfjalkgapcgaaDoorVrH
import Derived.Test.YtlmfjalkgapcgaaDoorVrI
import Derived.Test.YtlmfjalkgapcgaaDoorVrJ
namespace Go.Proofs.YtlmfjalkgapcgaaDoor
open Go.RowKit
set_option linter.unusedVariables false

attribute [local go_sem] Oper.semAt_some

set_option maxRecDepth 100000 in
theorem own_any (w : World) (B n c : Nat) (A : Option Addr) (l : List UInt8) (h : Byt w B A n c l) (hB : B ≤ w.heap.size) (hn : n ≤ 1099511627776) :
    Calls Tryd.prog 18 #[.slice A n c] w fun e w' => ∃ A' c', e = .returned (.slice A' n c') ∧ Own w' w.heap.size A' n c' l ∧ (A' = none → n = 0 ∧ c' = 0) ∧ Below w.heap.size w w' := by
  have Hb := Lib.hid ((h.more hB).alloc (Nat.le_refl _) (.cells #[] 5))
  have ho : Own (w.alloc (.cells #[] 5)) w.heap.size (some ⟨w.heap.size, 0, none⟩) 0 0 [] := Own.lit w #[] [] rfl (Nat.zero_le _)
  clear h
  go_enter Tryd.func18, Tryd.ntmps18
  go_wp2_with (at_builtin; refine wpList_byte_append rfl (.tmp 3) (.tmp 4) rfl w.heap.size _ 0 0 [] rfl ho w.heap.size _ n c l rfl Hb.out (by omega) (by simp) ?_; intro A2 c2 w2 hown2 hgr2 hat2)
  go_ret
  rw [Nat.zero_add] at hown2
  refine ⟨A2, c2, rfl, hown2, fun hA => ?_, ((Below.refl _ _).alloc (Nat.le_refl _) _).grown hgr2 (by simp) fun k hk => (World.ownsRow.lt ho k hk).1⟩
  subst hA
  rcases hown2.2 with ⟨hv, hn0⟩ | ⟨g, cap, cur, hv, _⟩
  · injection hv with _ _ hc0
    exact ⟨hn0, hc0⟩
  · injection hv with hv
    cases hv

/-! ### What the calls return, as lists -/
def bumpL (l : List Ct) (d : Int) : List Ct × Int := if vld 0 l && devB d then (if vl l d = 18446744073709551615 then ([], 3) else (bmp l d, 0)) else ([], 2)
def mergeL (ls : List (List Ct)) : List Ct × Int := if ls.all (vld 0) then (mgs ls, 0) else ([], 2)
def bytesL (l : List Ct) : List UInt8 × Int := if vld 0 l then (encV l, 0) else ([], 2)
def readL (b : List UInt8) : List Ct × Int := match readV b with | some l => (l, 0) | none => ([], 4)
section
variable {w : World} {B : Nat} {l : List Ct} {ls : List (List Ct)} {b : List UInt8} {d n : Int} {r : Value}
theorem BumpR.rd (h : BumpR B l d r n w) : RdG ctE w r (bumpL l d).1 ∧ n = (bumpL l d).2 := by
  unfold BumpR at h
  unfold bumpL
  split at h
  · rw [if_pos (by assumption)]
    split at h
    · rw [if_pos (by assumption), h.1]; exact ⟨RdG.zero _, h.2⟩
    · rw [if_neg (by assumption)]; exact ⟨h.1.rd, h.2⟩
  · rw [if_neg (by assumption), h.1]; exact ⟨RdG.zero _, h.2⟩
theorem MergeR.rd (h : MergeR B ls r n w) : RdG ctE w r (mergeL ls).1 ∧ n = (mergeL ls).2 := by
  unfold MergeR at h
  unfold mergeL
  split at h
  · rw [if_pos (by assumption)]; exact ⟨h.1.rd, h.2⟩
  · rw [if_neg (by assumption), h.1]; exact ⟨RdG.zero _, h.2⟩
theorem BytesR.rd (h : BytesR B l r n w) : (∃ A k c, r = .slice A k c ∧ Own w B A k c (bytesL l).1) ∧ n = (bytesL l).2 := by
  unfold BytesR at h
  unfold bytesL
  split at h
  · rw [if_pos (by assumption)]; exact h
  · rw [if_neg (by assumption)]; exact ⟨⟨_, _, _, h.1, World.ownsRow_nil _ _ _ _⟩, h.2⟩
theorem ReadR.rd (h : ReadR B b r n w) : RdG ctE w r (readL b).1 ∧ n = (readL b).2 := by
  unfold ReadR at h
  unfold readL
  cases hv : readV b with
  | some x => rw [hv] at h; exact ⟨h.1.rd, h.2⟩
  | none => rw [hv] at h; rw [h.1]; exact ⟨RdG.zero _, h.2⟩
theorem vld_small {a : Int} (h : vld 0 l = true) : l.length ≤ 1000000000 := by have := vld_len16 h; omega
theorem bumpL_len : (bumpL l d).1.length ≤ 1000000000 := by
  unfold bumpL
  by_cases h : (vld 0 l && devB d) = true
  · rw [if_pos h]
    split
    · simp
    · rw [Bool.and_eq_true] at h
      have h2 := devB_iff.1 h.2
      exact vld_small (a := 0) (bmp_vld h.1 h2.1 h2.2)
  · rw [if_neg h]; simp
theorem mergeL_len : (mergeL ls).1.length ≤ 1000000000 := by
  unfold mergeL
  by_cases h : ls.all (vld 0) = true
  · rw [if_pos h]; exact vld_small (a := 0) (mgs_vld (List.all_eq_true.1 h))
  · rw [if_neg h]; simp
theorem readL_len : (readL b).1.length ≤ 1000000000 := by
  unfold readL
  split
  · rename_i x hx
    unfold readV at hx
    split at hx
    · rename_i q
      injection hx with hx
      rw [← hx]
      exact vld_small (a := 0) q.2
    · cases hx
  · simp
end
def CallR (L : List Ct) (p : Int) (W : World) (e : Ending) (w' : World) : Prop := ∃ r, e = .returned (.tuple #[r, .int .i64 p]) ∧ RdG ctE w' r L ∧ Nx W w'
def CallB (L : List UInt8) (p : Int) (W : World) (e : Ending) (w' : World) : Prop := ∃ A n c, e = .returned (.tuple #[.slice A n c, .int .i64 p]) ∧ Own w' W.heap.size A n c L ∧ Nx W w'

set_option maxRecDepth 100000 in
set_option maxHeartbeats 8000000 in
theorem calls_any (w : World) (T : Tab w) (v0 v1 v2 : Value) (a b c : List Ct) (d : Int) (A4 : Option Addr) (n4 c4 : Nat) (m : List UInt8) (h0 : RdG ctE w v0 a) (h1 : RdG ctE w v1 b) (h2 : RdG ctE w v2 c) (k0 : CtsOk a) (k1 : CtsOk b) (k2 : CtsOk c)
    (hd : -9223372036854775808 ≤ d ∧ d ≤ 9223372036854775807) (hm : Byt w w.heap.size A4 n4 c4 m) :
    Calls Tryd.prog 4 #[v0, v1, v2, .int .i64 d, .slice A4 n4 c4] w fun e w' => e = .returned (.bool true) ∧ Nx w w' := by
  have LI := Lib.hid (lives_any w)
  obtain ⟨A0, c0, rfl⟩ := h0.form
  obtain ⟨A1, c1, rfl⟩ := h1.form
  obtain ⟨A2, c2, rfl⟩ := h2.form
  by_cases q : 200 < a.length ∨ 200 < b.length ∨ 200 < c.length ∨ 200 < n4
  · clear T h0 h1 h2 k0 k1 k2 hm
    generalize a.length = la at *
    generalize b.length = lb at *
    generalize c.length = lc at *
    go_enter Tryd.func4, Tryd.ntmps4
    go_wp2_with fail
    refine LI.out.mono ?_
    rintro e w1 ⟨rfl, hn1⟩
    have N1 := Lib.hid hn1
    clear LI hn1
    cases t1 : decide ((200 : Int) < (la : Int)) with
    | true =>
      have p1 : (200 : Int) < (la : Int) := by simpa using t1
      have p2 : 200 < la := by omega
      clear q
      go_wp2
      go_ret
      exact ⟨rfl, N1.out⟩
    | false =>
    have p1 : ¬ (200 : Int) < (la : Int) := by simpa using t1
    have p2 : ¬ 200 < la := by omega
    cases t2 : decide ((200 : Int) < (lb : Int)) with
    | true =>
      have p3 : (200 : Int) < (lb : Int) := by simpa using t2
      have p4 : 200 < lb := by omega
      clear q
      go_wp2
      go_ret
      exact ⟨rfl, N1.out⟩
    | false =>
    have p3 : ¬ (200 : Int) < (lb : Int) := by simpa using t2
    have p4 : ¬ 200 < lb := by omega
    cases t3 : decide ((200 : Int) < (lc : Int)) with
    | true =>
      have p5 : (200 : Int) < (lc : Int) := by simpa using t3
      have p6 : 200 < lc := by omega
      clear q
      go_wp2
      go_ret
      exact ⟨rfl, N1.out⟩
    | false =>
    have p5 : ¬ (200 : Int) < (lc : Int) := by simpa using t3
    have p6 : ¬ 200 < lc := by omega
    have p7 : 200 < n4 := by omega
    have p8 : (200 : Int) < (n4 : Int) := by omega
    have t4 : decide ((200 : Int) < (n4 : Int)) = true := by simpa using p8
    clear q
    go_wp2
    go_ret
    exact ⟨rfl, N1.out⟩
  · have g1 : ¬ 200 < a.length := by omega
    have g2 : ¬ 200 < b.length := by omega
    have g3 : ¬ 200 < c.length := by omega
    have g4 : ¬ 200 < n4 := by omega
    clear q
    have hls : ∀ l ∈ [a, b, c], l.length ≤ 9223372036854775807 := fun l hl => by
      simp only [List.mem_cons, List.not_mem_nil, or_false] at hl
      rcases hl with rfl | rfl | rfl <;> omega
    have BU1 : Hid (∀ W, Nx w W → Calls Tryd.prog 6 #[.slice A0 a.length c0, .int .i64 d] W (CallR (bumpL a d).1 (bumpL a d).2 W)) := fun W hW => (bump_any W _ a d (h0.nx hW) k0 (by omega)).mono fun e w' ⟨r, n, e1, hr, hn⟩ => ⟨r, by rw [e1, hr.rd.2], hr.rd.1, hn⟩
    have BU2 : Hid (∀ W, Nx w W → Calls Tryd.prog 12 #[.slice A0 a.length c0, .int .i64 d] W (CallR (bumpL a d).1 (bumpL a d).2 W)) := fun W hW => (rbump_any W _ a d (h0.nx hW) k0 (by omega)).mono fun e w' ⟨r, n, e1, hr, hn⟩ => ⟨r, by rw [e1, hr.rd.2], hr.rd.1, hn⟩
    have ME1 : Hid (∀ W, Nx w W → Calls Tryd.prog 13 #[.slice (some ⟨W.heap.size, 0, none⟩) 3 3] (W.alloc (.cells #[.slice A0 a.length c0, .slice A1 b.length c1, .slice A2 c.length c2] 23)) (CallR (mergeL [a, b, c]).1 (mergeL [a, b, c]).2 W)) := fun W hW =>
      (merge_any _ _ _ (sls3 23 (h0.nx hW) (h1.nx hW) (h2.nx hW)) (by simp) hls).mono fun e w' ⟨r, n, e1, hr, hn⟩ => ⟨r, by rw [e1, hr.rd.2], hr.rd.1, ((Nx.refl W).alloc _).trans hn⟩
    have ME2 : Hid (∀ W, Nx w W → Calls Tryd.prog 14 #[.slice (some ⟨W.heap.size, 0, none⟩) 3 3] (W.alloc (.cells #[.slice A0 a.length c0, .slice A1 b.length c1, .slice A2 c.length c2] 23)) (CallR (mergeL [a, b, c]).1 (mergeL [a, b, c]).2 W)) := fun W hW =>
      (rmerge_any _ _ _ (sls3 23 (h0.nx hW) (h1.nx hW) (h2.nx hW)) (by simp) hls).mono fun e w' ⟨r, n, e1, hr, hn⟩ => ⟨r, by rw [e1, hr.rd.2], hr.rd.1, ((Nx.refl W).alloc _).trans hn⟩
    have BY1 : Hid (∀ W, Nx w W → Calls Tryd.prog 15 #[.slice A0 a.length c0] W (CallB (bytesL a).1 (bytesL a).2 W)) := fun W hW => (bytes_any W _ a (h0.nx hW) k0 (by omega)).mono fun e w' ⟨r, n, e1, hr, hn⟩ => by
      obtain ⟨⟨A, n', c', e2, ho⟩, e3⟩ := hr.rd
      exact ⟨A, n', c', by rw [e1, e2, e3], ho, hn⟩
    have BY2 : Hid (∀ W, Nx w W → Calls Tryd.prog 16 #[.slice A0 a.length c0] W (CallB (bytesL a).1 (bytesL a).2 W)) := fun W hW => (rbytes_any W _ a (h0.nx hW) k0 (by omega)).mono fun e w' ⟨r, n, e1, hr, hn⟩ => by
      obtain ⟨⟨A, n', c', e2, ho⟩, e3⟩ := hr.rd
      exact ⟨A, n', c', by rw [e1, e2, e3], ho, hn⟩
    have OW : Hid (∀ W, Nx w W → Calls Tryd.prog 18 #[.slice A4 n4 c4] W fun e w' => ∃ A' c', e = .returned (.slice A' n4 c') ∧ Byt w' w'.heap.size A' n4 c' m ∧ (A' = none → n4 = 0 ∧ c' = 0) ∧ Nx W w') := fun W hW => (own_any W w.heap.size n4 c4 A4 m (hm.same hW) hW.size (by omega)).mono fun e w' ⟨A', c', e1, ho, hz, hb⟩ => ⟨A', c', e1, ho.byt, hz, hb⟩
    have RE1 : Hid (∀ W A' c', Byt W W.heap.size A' n4 c' m → (A' = none → n4 = 0 ∧ c' = 0) → Calls Tryd.prog 17 #[.slice A' n4 c'] W (CallR (readL m).1 (readL m).2 W)) := fun W A' c' hb hz => (read_any W _ n4 c' A' m hb (Nat.le_refl _) hz (by omega)).mono fun e w' ⟨r, n, e1, hr, hn⟩ => ⟨r, by rw [e1, hr.rd.2], hr.rd.1, hn⟩
    have RE2 : Hid (∀ W, Nx w W → Calls Tryd.prog 19 #[.slice A4 n4 c4] W (CallR (readL m).1 (readL m).2 W)) := fun W hW => (rread_any W _ n4 c4 A4 m (hm.same hW) hW.size (by omega)).mono fun e w' ⟨r, n, e1, hr, hn⟩ => ⟨r, by rw [e1, hr.rd.2], hr.rd.1, hn⟩
    have CH1 : Hid (∀ W, Nx w W → Calls Tryd.prog 11 #[.slice A0 a.length c0] W fun e w' => e = .returned (.int .i64 (if vld 0 a then 0 else 2)) ∧ Nx W w') := fun W hW => check_any W _ a (h0.nx hW) (by omega)
    have CH2 : Hid (∀ W, Nx w W → Calls Tryd.prog 21 #[.slice A0 a.length c0] W fun e w' => e = .returned (.int .i64 (if vld 0 a then 0 else 2)) ∧ Nx W w') := fun W hW => rcheck_any W _ a (h0.nx hW) (by omega)
    have VA1 : Hid (∀ W, Nx w W → Calls Tryd.prog 22 #[.slice A0 a.length c0, .int .i64 d] W fun e w' => e = .returned (.int .u64 (vl a d)) ∧ Nx W w') := fun W hW => val_any W _ a d (h0.nx hW) (by omega)
    have VA2 : Hid (∀ W, Nx w W → Calls Tryd.prog 23 #[.slice A0 a.length c0, .int .i64 d] W fun e w' => e = .returned (.int .u64 (vl a d)) ∧ Nx W w') := fun W hW => rvalue_any W _ a d (h0.nx hW) (by omega)
    have CO1 : Hid (∀ W, Nx w W → Calls Tryd.prog 8 #[.slice A0 a.length c0, .slice A1 b.length c1] W fun e w' => e = .returned (.int .i64 (if vld 0 a && vld 0 b then cp a b else 0)) ∧ Nx W w') := fun W hW => compare_any W _ _ a b (h0.nx hW) (h1.nx hW) (by omega)
    have CO2 : Hid (∀ W, Nx w W → Calls Tryd.prog 24 #[.slice A0 a.length c0, .slice A1 b.length c1] W fun e w' => e = .returned (.int .i64 (if vld 0 a && vld 0 b then cp a b else 0)) ∧ Nx W w') := fun W hW => rcompare_any W _ _ a b (h0.nx hW) (h1.nx hW) (by omega)
    have OR1 : Hid (∀ W, Nx w W → Calls Tryd.prog 9 #[.slice A0 a.length c0, .slice A1 b.length c1] W fun e w' => e = .returned (.int .i64 (if vld 0 a && vld 0 b then od a b else 0)) ∧ Nx W w') := fun W hW => order_any W _ _ a b (h0.nx hW) (h1.nx hW) k0 k1 (by omega)
    have OR2 : Hid (∀ W, Nx w W → Calls Tryd.prog 25 #[.slice A0 a.length c0, .slice A1 b.length c1] W fun e w' => e = .returned (.int .i64 (if vld 0 a && vld 0 b then od a b else 0)) ∧ Nx W w') := fun W hW => rorder_any W _ _ a b (h0.nx hW) (h1.nx hW) k0 k1 (by omega)
    have TX1 : Hid (∀ W, Nx w W → Calls Tryd.prog 10 #[.slice A0 a.length c0] W fun e w' => e = .returned (.string (S (if vld 0 a then textV a else []))) ∧ Nx W w') := fun W hW => text_any W _ a (h0.nx hW) k0 (by omega) (T.next hW)
    have TX2 : Hid (∀ W, Nx w W → Calls Tryd.prog 26 #[.slice A0 a.length c0] W fun e w' => e = .returned (.string (S (if vld 0 a then textV a else []))) ∧ Nx W w') := fun W hW => rtext_any W _ a (h0.nx hW) k0 (by omega)
    have VE : Hid (∀ W x y (L : List Ct), RdG ctE W x L → RdG ctE W y L → L.length ≤ 1000000000 → Calls Tryd.prog 20 #[x, y] W fun e w' => e = .returned (.bool true) ∧ Nx W w') := fun W x y L hx hy hL => by
      have := vector_any W x y L L hx hy hL
      rw [decide_eq_true rfl] at this
      exact this
    have Z1 := Lib.hid (bumpL_len (l := a) (d := d))
    have Z2 := Lib.hid (mergeL_len (ls := [a, b, c]))
    have Z4 := Lib.hid (readL_len (b := m))
    clear T h0 h1 h2 k0 k1 k2 hm hd hls
    generalize bumpL a d = L1 at *
    obtain ⟨L1, p1⟩ := L1
    generalize mergeL [a, b, c] = L2 at *
    obtain ⟨L2, p2⟩ := L2
    generalize bytesL a = L3 at *
    obtain ⟨L3, p3⟩ := L3
    generalize readL m = L4 at *
    obtain ⟨L4, p4⟩ := L4
    simp only at BU1 BU2 ME1 ME2 BY1 BY2 RE1 RE2 Z1 Z2 Z4
    generalize (if vld 0 a then (0 : Int) else 2) = r1 at *
    generalize vl a d = r2 at *
    generalize (if vld 0 a && vld 0 b then cp a b else 0) = r3 at *
    generalize (if vld 0 a && vld 0 b then od a b else 0) = r4 at *
    generalize S (if vld 0 a then textV a else []) = r5 at *
    have g1b : ¬ (200 : Int) < (a.length : Int) := by omega
    have g2b : ¬ (200 : Int) < (b.length : Int) := by omega
    have g3b : ¬ (200 : Int) < (c.length : Int) := by omega
    have g4b : ¬ (200 : Int) < (n4 : Int) := by omega
    have t1 : decide ((200 : Int) < (a.length : Int)) = false := decide_eq_false g1b
    have t2 : decide ((200 : Int) < (b.length : Int)) = false := decide_eq_false g2b
    have t3 : decide ((200 : Int) < (c.length : Int)) = false := decide_eq_false g3b
    have t4 : decide ((200 : Int) < (n4 : Int)) = false := decide_eq_false g4b
    generalize a.length = la at *
    generalize b.length = lb at *
    generalize c.length = lc at *
    go_enter Tryd.func4, Tryd.ntmps4
    go_wp2_with fail
    refine LI.out.mono ?_
    rintro e w1 ⟨rfl, hn1⟩
    have N1 := Lib.hid hn1
    clear LI hn1
    go_wp2_with fail
    refine (BU1.out w1 N1.out).mono ?_
    rintro e w2 ⟨x, rfl, hx, hn2⟩
    have X1 := Lib.hid hx
    have N2 := Lib.hid (N1.out.trans hn2)
    clear BU1 hx hn2
    go_wp2_with fail
    refine (BU2.out w2 N2.out).mono ?_
    rintro e w3 ⟨y, rfl, hy, hn3⟩
    have X1 := Lib.hid (X1.out.nx hn3)
    have Y1 := Lib.hid hy
    have N3 := Lib.hid (N2.out.trans hn3)
    clear BU2 hy hn3
    go_wp2_with fail
    refine (ME1.out w3 N3.out).mono ?_
    rintro e w4 ⟨x2, rfl, hx, hn4⟩
    have X1 := Lib.hid (X1.out.nx hn4)
    have Y1 := Lib.hid (Y1.out.nx hn4)
    have X2 := Lib.hid hx
    have N4 := Lib.hid (N3.out.trans hn4)
    clear ME1 hx hn4
    go_wp2_with fail
    refine (ME2.out w4 N4.out).mono ?_
    rintro e w5 ⟨y2, rfl, hx, hn5⟩
    have X1 := Lib.hid (X1.out.nx hn5)
    have Y1 := Lib.hid (Y1.out.nx hn5)
    have X2 := Lib.hid (X2.out.nx hn5)
    have Y2 := Lib.hid hx
    have N5 := Lib.hid (N4.out.trans hn5)
    clear ME2 hx hn5
    go_wp2_with fail
    refine (BY1.out w5 N5.out).mono ?_
    rintro e w6 ⟨A5, n5, c5, rfl, hx, hn6⟩
    have X1 := Lib.hid (X1.out.nx hn6)
    have Y1 := Lib.hid (Y1.out.nx hn6)
    have X2 := Lib.hid (X2.out.nx hn6)
    have Y2 := Lib.hid (Y2.out.nx hn6)
    have X3 := Lib.hid hx.byt
    have N6 := Lib.hid (N5.out.trans hn6)
    clear BY1 hx hn6
    go_wp2_with fail
    refine (BY2.out w6 N6.out).mono ?_
    rintro e w7 ⟨A6, n6, c6, rfl, hx, hn7⟩
    have X1 := Lib.hid (X1.out.nx hn7)
    have Y1 := Lib.hid (Y1.out.nx hn7)
    have X2 := Lib.hid (X2.out.nx hn7)
    have Y2 := Lib.hid (Y2.out.nx hn7)
    have X3 := Lib.hid ((X3.out.same hn7).more hn7.size)
    have Y3 := Lib.hid hx.byt
    have N7 := Lib.hid (N6.out.trans hn7)
    clear BY2 hx hn7
    go_wp2_with fail
    refine (OW.out w7 N7.out).mono ?_
    rintro e w8 ⟨A7, c7, rfl, hb, hz, hn8⟩
    have RD := Lib.hid (RE1.out w8 A7 c7 hb hz)
    have N8 := Lib.hid (N7.out.trans hn8)
    have H8 := Lib.hid hn8
    clear OW hb hz hn8 RE1
    go_wp2_with fail
    refine RD.out.mono ?_
    rintro e w9 ⟨x4, rfl, hx, hn9⟩
    have H9 := H8.out.trans hn9
    have X1 := Lib.hid (X1.out.nx H9)
    have Y1 := Lib.hid (Y1.out.nx H9)
    have X2 := Lib.hid (X2.out.nx H9)
    have Y2 := Lib.hid (Y2.out.nx H9)
    have X3 := Lib.hid ((X3.out.same H9).more H9.size)
    have Y3 := Lib.hid ((Y3.out.same H9).more H9.size)
    have X4 := Lib.hid hx
    have N9 := Lib.hid (N8.out.trans hn9)
    clear RD hx hn9 H9 H8
    go_wp2_with fail
    refine (RE2.out w9 N9.out).mono ?_
    rintro e w10 ⟨y4, rfl, hx, H9⟩
    have X1 := Lib.hid (X1.out.nx H9)
    have Y1 := Lib.hid (Y1.out.nx H9)
    have X2 := Lib.hid (X2.out.nx H9)
    have Y2 := Lib.hid (Y2.out.nx H9)
    have X3 := Lib.hid ((X3.out.same H9).more H9.size)
    have Y3 := Lib.hid ((Y3.out.same H9).more H9.size)
    have X4 := Lib.hid (X4.out.nx H9)
    have Y4 := Lib.hid hx
    have N10 := Lib.hid (N9.out.trans H9)
    clear RE2 hx H9
    go_upto_region 13 with fail
    simp only [List.append_eq, List.cons_append, List.nil_append]
    go_wp2_with fail
    refine (VE.out w10 x y L1 X1.out Y1.out Z1.out).mono ?_
    rintro e w11 ⟨rfl, H⟩
    have N11 := Lib.hid (N10.out.trans H)
    have X2 := Lib.hid (X2.out.nx H)
    have Y2 := Lib.hid (Y2.out.nx H)
    have X3 := Lib.hid ((X3.out.same H).more H.size)
    have Y3 := Lib.hid ((Y3.out.same H).more H.size)
    have X4 := Lib.hid (X4.out.nx H)
    have Y4 := Lib.hid (Y4.out.nx H)
    clear H X1 Y1 N10
    go_wp2_with fail
    refine (VE.out w11 x2 y2 L2 X2.out Y2.out Z2.out).mono ?_
    rintro e w12 ⟨rfl, H⟩
    have N12 := Lib.hid (N11.out.trans H)
    have X4 := Lib.hid (X4.out.nx H)
    have Y4 := Lib.hid (Y4.out.nx H)
    have s1 := run_string_of_bytes (X3.out.same H)
    have s2 := run_string_of_bytes (Y3.out.same H)
    clear H X2 Y2 N11
    go_wp2_with fail
    refine (VE.out w12 x4 y4 L4 X4.out Y4.out Z4.out).mono ?_
    rintro e w13 ⟨rfl, H⟩
    have N := Lib.hid (N12.out.trans H)
    clear H X4 Y4 s1 s2 X3 Y3 N12
    go_wp2_with fail
    refine (CH1.out _ N.out).mono ?_
    rintro e w14 ⟨rfl, H⟩
    have N := Lib.hid (N.out.trans H)
    clear H CH1
    go_wp2_with fail
    refine (CH2.out _ N.out).mono ?_
    rintro e w15 ⟨rfl, H⟩
    have N := Lib.hid (N.out.trans H)
    clear H CH2
    go_wp2_with fail
    refine (VA1.out _ N.out).mono ?_
    rintro e w16 ⟨rfl, H⟩
    have N := Lib.hid (N.out.trans H)
    clear H VA1
    go_wp2_with fail
    refine (VA2.out _ N.out).mono ?_
    rintro e w17 ⟨rfl, H⟩
    have N := Lib.hid (N.out.trans H)
    clear H VA2
    go_wp2_with fail
    refine (CO1.out _ N.out).mono ?_
    rintro e w18 ⟨rfl, H⟩
    have N := Lib.hid (N.out.trans H)
    clear H CO1
    go_wp2_with fail
    refine (CO2.out _ N.out).mono ?_
    rintro e w19 ⟨rfl, H⟩
    have N := Lib.hid (N.out.trans H)
    clear H CO2
    go_wp2_with fail
    refine (OR1.out _ N.out).mono ?_
    rintro e w20 ⟨rfl, H⟩
    have N := Lib.hid (N.out.trans H)
    clear H OR1
    go_wp2_with fail
    refine (OR2.out _ N.out).mono ?_
    rintro e w21 ⟨rfl, H⟩
    have N := Lib.hid (N.out.trans H)
    clear H OR2
    go_wp2_with fail
    refine (TX1.out _ N.out).mono ?_
    rintro e w22 ⟨rfl, H⟩
    have N := Lib.hid (N.out.trans H)
    clear H TX1
    go_wp2_with fail
    refine (TX2.out _ N.out).mono ?_
    rintro e w23 ⟨rfl, H⟩
    have N := Lib.hid (N.out.trans H)
    clear H TX2
    go_wp2
    go_ret
    exact ⟨by first | rfl | simp, N.out⟩
end Go.Proofs.YtlmfjalkgapcgaaDoor

/- The law VectorBumps. -/
import Derived.Test.YtlmfjalkgapcgaaVcKit
namespace Go.Proofs.Ytlmfjalkgapcgaa
open Go.RowKit
set_option linter.unusedVariables false

attribute [local go_sem] Oper.semAt_some

/-! ### Pure -/
theorem mgs_vl {ls : List (List Ct)} (h : ∀ l ∈ ls, vld 0 l = true) (d : Int) : vl (mgs ls) d = ls.foldl (fun x l => max x (vl l d)) 0 := by
  have : ∀ (ls : List (List Ct)) (a : List Ct), vld 0 a = true → (∀ l ∈ ls, vld 0 l = true) → vl (ls.foldl mg a) d = ls.foldl (fun x l => max x (vl l d)) (vl a d) := by
    intro ls
    induction ls with
    | nil => intro a _ _; rfl
    | cons l ls ih =>
      intro a ha h
      have hl := h l (by simp)
      show vl (ls.foldl mg (mg a l)) d = _
      rw [ih _ (mg_vld ha hl) fun x hx => h x (by simp [hx]), mg_vl ha hl]; rfl
  exact this ls [] rfl h
theorem all1 {a : List Ct} (h : vld 0 a = true) : ∀ l ∈ [a], vld 0 l = true := fun l hl => by
  obtain rfl : l = a := by simpa using hl
  exact h
theorem all_cons {a : List Ct} {ls : List (List Ct)} (h : vld 0 a = true) (k : ∀ l ∈ ls, vld 0 l = true) : ∀ l ∈ a :: ls, vld 0 l = true := fun l hl => by
  rcases List.mem_cons.1 hl with rfl | hl
  · exact h
  · exact k l hl
section
variable {a b c : List Ct}
theorem mgs_x (ha : vld 0 a = true) (hb : vld 0 b = true) (hc : vld 0 c = true) : mgs [a, b, c] = mgs [a, mgs [b, c]] := by
  have h2 := all_cons hb (all1 hc)
  have h3 := all_cons ha h2
  have h4 := all_cons ha (all1 (mgs_vld h2))
  refine vl_ext (mgs_vld h3) (mgs_vld h4) fun d => ?_
  rw [mgs_vl h3, mgs_vl h4]
  simp only [List.foldl_cons, List.foldl_nil]
  rw [mgs_vl h2]
  simp only [List.foldl_cons, List.foldl_nil]
  omega
theorem mgs_y (ha : vld 0 a = true) (hb : vld 0 b = true) (hc : vld 0 c = true) : mgs [a, b, c] = mgs [c, b, a, b] := by
  have h3 := all_cons ha (all_cons hb (all1 hc))
  have h4 := all_cons hc (all_cons hb (all_cons ha (all1 hb)))
  refine vl_ext (mgs_vld h3) (mgs_vld h4) fun d => ?_
  rw [mgs_vl h3, mgs_vl h4]
  simp only [List.foldl_cons, List.foldl_nil]
  omega
theorem cp_after {m : List Ct} (hm : vld 0 m = true) (ha : vld 0 a = true) (h : ∀ d, vl a d ≤ vl m d) : cp m a = 1 ∨ cp m a = 3 := by
  have := (less_no hm ha).2 h
  unfold cp cpOf
  rw [this]
  cases (ag m a).any moreP <;> simp
theorem ok_vld {l : List Ct} (h : vld 0 l = true) (k : ∀ c ∈ l, c.n < 18446744073709551616) : CtsOk l := fun c hc => by
  have hd : ∀ (l : List Ct) (a : Int), vld a l = true → ∀ c ∈ l, 1 ≤ c.d ∧ c.d ≤ 16 := by
    intro l
    induction l with
    | nil => intro a _ c hc; cases hc
    | cons x l ih =>
      intro a h c hc
      rw [vld_cons] at h
      rcases List.mem_cons.1 hc with rfl | hc
      · exact ⟨h.1.1, h.1.2.1⟩
      · exact ih _ h.2 c hc
  have := hd l 0 h c hc
  have := k c hc
  exact ⟨by omega, by omega, by omega⟩
theorem CtsOk.small {l : List Ct} (h : CtsOk l) : ∀ c ∈ l, c.n < 18446744073709551616 := fun c hc => by have := (h c hc).2.2; omega
theorem devB_iff {d : Int} : devB d = true ↔ 1 ≤ d ∧ d ≤ 16 := by simp [devB]
variable {d f : Int}
theorem bmp_ok (ha : vld 0 a = true) (ka : CtsOk a) (hd : devB d = true) (hm : vl a d ≠ 18446744073709551615) : vld 0 (bmp a d) = true ∧ CtsOk (bmp a d) := by
  obtain ⟨h1, h2⟩ := devB_iff.1 hd
  refine ⟨bmp_vld ha h1 h2, ok_vld (bmp_vld ha h1 h2) (mg_small ha (vld_one h1 h2 (by omega)) ka.small fun c hc => ?_)⟩
  obtain rfl : c = ⟨d, vl a d + 1⟩ := by simpa using hc
  have := vl_small (d := d) ka.small (by omega)
  show vl a d + 1 < _
  omega
theorem bmp_comm (ha : vld 0 a = true) (hd : devB d = true) (hf : devB f = true) : bmp (bmp a d) f = bmp (bmp a f) d := by
  obtain ⟨d1, d2⟩ := devB_iff.1 hd
  obtain ⟨f1, f2⟩ := devB_iff.1 hf
  refine vl_ext (bmp_vld (bmp_vld ha d1 d2) f1 f2) (bmp_vld (bmp_vld ha f1 f2) d1 d2) fun e => ?_
  rw [bmp_vl (bmp_vld ha d1 d2) f1 f2, bmp_vl ha d1 d2, bmp_vl (bmp_vld ha f1 f2) d1 d2, bmp_vl ha f1 f2]
  omega
theorem bmp_both (ha : vld 0 a = true) (hd : devB d = true) (hf : devB f = true) (hne : d ≠ f) : mgs [bmp a d, bmp a f] = bmp (bmp a d) f := by
  obtain ⟨d1, d2⟩ := devB_iff.1 hd
  obtain ⟨f1, f2⟩ := devB_iff.1 hf
  have h2 := all_cons (bmp_vld ha d1 d2) (all1 (bmp_vld ha f1 f2))
  refine vl_ext (mgs_vld h2) (bmp_vld (bmp_vld ha d1 d2) f1 f2) fun e => ?_
  rw [mgs_vl h2, bmp_vl (bmp_vld ha d1 d2) f1 f2]
  simp only [List.foldl_cons, List.foldl_nil]
  rw [bmp_vl ha d1 d2, bmp_vl ha f1 f2]
  by_cases q : d = e
  · by_cases r : f = e
    · omega
    · simp [q, r]
  · by_cases r : f = e
    · simp [q, r]
    · simp [q, r]
theorem bmp_other (ha : vld 0 a = true) (hd : devB d = true) (hne : d ≠ f) : vl (bmp a d) f = vl a f := by
  obtain ⟨d1, d2⟩ := devB_iff.1 hd
  rw [bmp_vl ha d1 d2, if_neg hne]; rfl
theorem bmp_self (ha : vld 0 a = true) (hd : devB d = true) : vl (bmp a d) d = vl a d + 1 := by
  obtain ⟨d1, d2⟩ := devB_iff.1 hd
  rw [bmp_vl ha d1 d2, if_pos rfl]
theorem bmp_beside (ha : vld 0 a = true) (hd : devB d = true) (hf : devB f = true) (hne : d ≠ f) : cp (bmp a d) (bmp a f) = 4 := by
  obtain ⟨d1, d2⟩ := devB_iff.1 hd
  obtain ⟨f1, f2⟩ := devB_iff.1 hf
  rw [cp_4 (bmp_vld ha d1 d2) (bmp_vld ha f1 f2)]
  exact ⟨⟨f, by rw [bmp_other ha hd hne, bmp_self ha hf]; omega⟩, ⟨d, by rw [bmp_other ha hf (fun e => hne e.symm), bmp_self ha hd]; omega⟩⟩
theorem bmp_ne (ha : vld 0 a = true) (hd : devB d = true) (hf : devB f = true) (hne : d ≠ f) : bmp a d ≠ bmp a f := fun e => by
  have h1 := bmp_self ha hd
  rw [e, bmp_other ha hf (fun e => hne e.symm)] at h1
  omega
end
theorem rd_nil {w : World} {v : Value} {l : List Ct} (h : RdG ctE w v l) {A : Option Addr} {n c : Nat} (e : v = .slice A n c) : n = l.length := by
  subst e; exact h.caps.1

set_option maxRecDepth 100000 in
set_option maxHeartbeats 4000000 in
theorem bumps_any (w : World) (v0 v1 v2 : Value) (a b c : List Ct) (d f : Int) (h0 : RdG ctE w v0 a) (h1 : RdG ctE w v1 b) (h2 : RdG ctE w v2 c) (k0 : CtsOk a) (k1 : CtsOk b) (k2 : CtsOk c) :
    Calls Try.prog 4 #[v0, v1, v2, .int .i64 d, .int .i64 f] w fun e w' => e = .returned (.bool true) ∧ Nx w w' := by
  have LI := Lib.hid (lives_any w)
  have CH : Hid (∀ W v (l : List Ct), RdG ctE W v l → Calls Try.prog 6 #[v] W fun e w' => e = .returned (.int .i64 (if vld 0 l then 0 else 2)) ∧ Nx W w') := fun W v l h => check_any W v l h (by
    obtain ⟨_, _, _, q1, q2, _⟩ := h
    unfold maxLen at q2; omega)
  have M3 : Hid (∀ W x y z (p q r : List Ct), RdG ctE W x p → RdG ctE W y q → RdG ctE W z r → vld 0 p = true → vld 0 q = true → vld 0 r = true → Calls Try.prog 11 #[.slice (some ⟨W.heap.size, 0, none⟩) 3 3] (W.alloc (.cells #[x, y, z] 22)) (Ret2 fun s n w' => n = 0 ∧ RdG ctE w' s (mgs [p, q, r]) ∧ Nx W w')) := fun W x y z p q r h1 h2 h3 k1 k2 k3 =>
    (merge_ok _ _ _ (sls3 22 h1 h2 h3) (by simp) (all_cons k1 (all_cons k2 (all1 k3)))).mono fun e w' ⟨r, n, e1, h1, h2, h3⟩ => ⟨r, n, e1, h1, h2.rd, ((Nx.refl W).alloc _).trans h3⟩
  have M2 : Hid (∀ W x y (p q : List Ct), RdG ctE W x p → RdG ctE W y q → vld 0 p = true → vld 0 q = true → Calls Try.prog 11 #[.slice (some ⟨W.heap.size, 0, none⟩) 2 2] (W.alloc (.cells #[x, y] 22)) (Ret2 fun s n w' => n = 0 ∧ RdG ctE w' s (mgs [p, q]) ∧ Nx W w')) := fun W x y p q h1 h2 k1 k2 =>
    (merge_ok _ _ _ (sls2 22 h1 h2) (by simp) (all_cons k1 (all1 k2))).mono fun e w' ⟨r, n, e1, h1, h2, h3⟩ => ⟨r, n, e1, h1, h2.rd, ((Nx.refl W).alloc _).trans h3⟩
  have M4 : Hid (∀ W x y z u (p q r s : List Ct), RdG ctE W x p → RdG ctE W y q → RdG ctE W z r → RdG ctE W u s → vld 0 p = true → vld 0 q = true → vld 0 r = true → vld 0 s = true → Calls Try.prog 11 #[.slice (some ⟨W.heap.size, 0, none⟩) 4 4] (W.alloc (.cells #[x, y, z, u] 22)) (Ret2 fun t n w' => n = 0 ∧ RdG ctE w' t (mgs [p, q, r, s]) ∧ Nx W w')) := fun W x y z u p q r s h1 h2 h3 h4 k1 k2 k3 k4 =>
    (merge_ok _ _ _ (sls4 22 h1 h2 h3 h4) (by simp) (all_cons k1 (all_cons k2 (all_cons k3 (all1 k4))))).mono fun e w' ⟨r, n, e1, h1, h2, h3⟩ => ⟨r, n, e1, h1, h2.rd, ((Nx.refl W).alloc _).trans h3⟩
  have VE : Hid (∀ W x y (p q : List Ct), RdG ctE W x p → RdG ctE W y q → p = q → vld 0 p = true → Calls Try.prog 10 #[x, y] W fun e w' => e = .returned (.bool true) ∧ Nx W w') := fun W x y p q h1 h2 e k => by
    have := vector_any W x y p q h1 h2 (by have := vld_len16 k; omega)
    rw [decide_eq_true e] at this
    exact this
  have CO : Hid (∀ W x y (p q : List Ct) (r : Int), RdG ctE W x p → RdG ctE W y q → vld 0 p = true → vld 0 q = true → cp p q = r → Calls Try.prog 7 #[x, y] W fun e w' => e = .returned (.int .i64 r) ∧ Nx W w') := fun W x y p q r h1 h2 k1 k2 e => by
    have := compare_any W x y p q h1 h2 (by have := vld_len16 k1; have := vld_len16 k2; omega)
    rw [k1, k2, if_pos (by rfl), e] at this
    exact this
  have OR : Hid (∀ W x y (p q : List Ct) (r : Int), RdG ctE W x p → RdG ctE W y q → vld 0 p = true → vld 0 q = true → CtsOk p → CtsOk q → od p q = r → Calls Try.prog 8 #[x, y] W fun e w' => e = .returned (.int .i64 r) ∧ Nx W w') := fun W x y p q r h1 h2 k1 k2 c1 c2 e => by
    have := order_any W x y p q h1 h2 c1 c2 (by have := vld_len16 k1; have := vld_len16 k2; omega)
    rw [k1, k2, if_pos (by rfl), e] at this
    exact this
  obtain ⟨A0', c0', rfl⟩ := h0.form
  obtain ⟨A1', c1', rfl⟩ := h1.form
  obtain ⟨A2', c2', rfl⟩ := h2.form
  have H0 := Lib.hid h0
  have H1 := Lib.hid h1
  have H2 := Lib.hid h2
  have K0 := Lib.hid k0
  clear h0 h1 h2 k0 k1 k2
  go_enter Try.func4, Try.ntmps4
  go_wp2_with fail
  refine LI.out.mono ?_
  rintro e w1 ⟨rfl, hn1⟩
  have N1 := Lib.hid hn1
  clear hn1 LI
  go_wp2_with fail
  refine (CH.out w1 _ a (H0.out.nx N1.out)).mono ?_
  rintro e w2 ⟨rfl, hn2⟩
  have N2 := Lib.hid (N1.out.trans hn2)
  clear hn2
  cases ha : vld 0 a with
  | false =>
    go_wp2
    go_ret
    exact ⟨rfl, N2.out⟩
  | true =>
  have A0 := Lib.hid ha
  clear ha
  go_wp2_with fail
  refine (CH.out w2 _ b (H1.out.nx N2.out)).mono ?_
  rintro e w3 ⟨rfl, hn3⟩
  have N3 := Lib.hid (N2.out.trans hn3)
  clear hn3
  cases hb : vld 0 b with
  | false =>
    go_wp2
    go_ret
    exact ⟨rfl, N3.out⟩
  | true =>
  have B0 := Lib.hid hb
  clear hb
  go_wp2_with fail
  refine (CH.out w3 _ c (H2.out.nx N3.out)).mono ?_
  rintro e w4 ⟨rfl, hn4⟩
  have N4 := Lib.hid (N3.out.trans hn4)
  clear hn4
  cases hc : vld 0 c with
  | false =>
    go_wp2
    go_ret
    exact ⟨rfl, N4.out⟩
  | true =>
  have C0 := Lib.hid hc
  clear hc CH
  go_wp2_with fail
  refine (M3.out w4 _ _ _ a b c (H0.out.nx N4.out) (H1.out.nx N4.out) (H2.out.nx N4.out) A0.out B0.out C0.out).mono ?_
  rintro e w5 ⟨m, n5, rfl, rfl, hm, hn5⟩
  have N5 := Lib.hid (N4.out.trans hn5)
  have RM := Lib.hid hm
  clear hn5 hm M3
  go_wp2_with fail
  refine (M2.out w5 _ _ b c (H1.out.nx N5.out) (H2.out.nx N5.out) B0.out C0.out).mono ?_
  rintro e w6 ⟨bc, n6, rfl, rfl, hm, hn6⟩
  obtain ⟨bcA, bcn, bcc, rfl⟩ : ∃ A n c, bc = .slice A n c := by (obtain ⟨A, c, e⟩ := hm.form; exact ⟨_, _, _, e⟩)
  have N6 := Lib.hid (N5.out.trans hn6)
  have S6 := Lib.hid hn6
  have RBC := Lib.hid hm
  clear hn6 hm
  have VBC : Hid (vld 0 (mgs [b, c]) = true) := mgs_vld (all_cons B0.out (all1 C0.out))
  have VM : Hid (vld 0 (mgs [a, b, c]) = true) := mgs_vld (all_cons A0.out (all_cons B0.out (all1 C0.out)))
  go_wp2_with fail
  refine (M2.out w6 _ _ a _ (H0.out.nx N6.out) RBC.out A0.out VBC.out).mono ?_
  rintro e w7 ⟨x, n7, rfl, rfl, hm, hn7⟩
  have N7 := Lib.hid (N6.out.trans hn7)
  have S7 := Lib.hid (S6.out.trans hn7)
  have RX := Lib.hid hm
  clear hn7 hm S6 RBC VBC
  go_wp2_with fail
  refine (M4.out w7 _ _ _ _ c b a b (H2.out.nx N7.out) (H1.out.nx N7.out) (H0.out.nx N7.out) (H1.out.nx N7.out) C0.out B0.out A0.out B0.out).mono ?_
  rintro e w8 ⟨y, n8, rfl, rfl, hm, hn8⟩
  have N8 := Lib.hid (N7.out.trans hn8)
  have S8 := Lib.hid (S7.out.trans hn8)
  have RX8 := Lib.hid (RX.out.nx hn8)
  have RY := Lib.hid hm
  clear hn8 hm S7 M4 RX
  go_wp2_with fail
  refine (VE.out w8 m x _ _ (RM.out.nx S8.out) RX8.out (mgs_x A0.out B0.out C0.out) VM.out).mono ?_
  rintro e w9 ⟨rfl, hn9⟩
  have N9 := Lib.hid (N8.out.trans hn9)
  have S9 := Lib.hid (S8.out.trans hn9)
  have RY9 := Lib.hid (RY.out.nx hn9)
  clear hn9 RX8 RY S8
  go_wp2_with fail
  refine (VE.out w9 m y _ _ (RM.out.nx S9.out) RY9.out (mgs_y A0.out B0.out C0.out) VM.out).mono ?_
  rintro e w10 ⟨rfl, hn10⟩
  have N10 := Lib.hid (N9.out.trans hn10)
  have RM10 := Lib.hid (RM.out.nx (S9.out.trans hn10))
  clear hn10 RY9 S9 RM
  have AFT : Hid (cp (mgs [a, b, c]) a = 1 ∨ cp (mgs [a, b, c]) a = 3) := cp_after VM.out A0.out fun e => by
    rw [mgs_vl (all_cons A0.out (all_cons B0.out (all1 C0.out)))]
    simp only [List.foldl_cons, List.foldl_nil]
    omega
  have REST : Hid (∀ (r : Int), cp (mgs [a, b, c]) a = r → r = 1 ∨ r = 3) := fun r e => by rw [← e]; exact AFT.out
  obtain ⟨r, hr⟩ : ∃ r, cp (mgs [a, b, c]) a = r := ⟨_, rfl⟩
  have HR := Lib.hid hr
  clear hr AFT
  go_wp2_with fail
  refine (CO.out w10 m _ _ a r RM10.out (H0.out.nx N10.out) VM.out A0.out HR.out).mono ?_
  rintro e w11 ⟨rfl, hn11⟩
  have N11 := Lib.hid (N10.out.trans hn11)
  clear hn11 RM10 VM
  have HRR := REST.out r HR.out
  clear REST HR
  have BO : Hid (∀ W v (l : List Ct) (d : Int), RdG ctE W v l → CtsOk l → vld 0 l = true → devB d = true → vl l d ≠ 18446744073709551615 → Calls Try.prog 15 #[v, .int .i64 d] W (Ret2 fun r n w' => n = 0 ∧ RdG ctE w' r (bmp l d) ∧ Nx W w')) := fun W v l d h k hv hd hm =>
    (bump_ok W v l d h k hv hd hm).mono fun e w' ⟨r, n, e1, h1, h2, h3⟩ => ⟨r, n, e1, h1, h2.rd, h3⟩
  have BB : Hid (∀ W v (l : List Ct) (d : Int), RdG ctE W v l → CtsOk l → vld 0 l = true → ¬ (devB d = true ∧ vl l d ≠ 18446744073709551615) → Calls Try.prog 15 #[v, .int .i64 d] W (Ret2 fun r n w' => (n = 2 ∨ n = 3) ∧ r = .slice none 0 0 ∧ Nx W w')) := fun W v l d h k hv hd => bump_bad W v l d h k hv hd
  have BA : Hid (∀ W v (l : List Ct) (d : Int), RdG ctE W v l → CtsOk l → vld 0 l = true → Calls Try.prog 15 #[v, .int .i64 d] W (Ret2 fun r n w' => Nx W w')) := fun W v l d h k hv =>
    (bump_any W v l d h k (by have := vld_len16 hv; omega)).mono fun e w' ⟨r, n, e1, h1, h2⟩ => ⟨r, n, e1, h2⟩
  have VA : Hid (∀ W v (l : List Ct) (d : Int) (x : Nat), RdG ctE W v l → vld 0 l = true → vl l d = x → Calls Try.prog 16 #[v, .int .i64 d] W fun e w' => e = .returned (.int .u64 x) ∧ Nx W w') := fun W v l d x h k e => by
    have := val_any W v l d h (by have := vld_len16 k; omega)
    rw [e] at this
    exact this
  by_cases hd : devB d = true ∧ vl a d ≠ 18446744073709551615
  · by_cases hf : devB f = true ∧ vl a f ≠ 18446744073709551615
    · have HD := Lib.hid hd
      have HF := Lib.hid hf
      have PO := Lib.hid (bmp_ok A0.out K0.out hd.1 hd.2)
      have QO := Lib.hid (bmp_ok A0.out K0.out hf.1 hf.2)
      clear hd hf BB
      rcases HRR with rfl | rfl <;> (
        go_wp2_with fail
        refine (BO.out w11 _ a d (H0.out.nx N11.out) K0.out A0.out HD.out.1 HD.out.2).mono ?_
        rintro e w12 ⟨p, n12, rfl, rfl, hp, hn12⟩
        obtain ⟨pA, pn, pc, rfl⟩ : ∃ A n c, p = .slice A n c := by (obtain ⟨A, c, e⟩ := hp.form; exact ⟨_, _, _, e⟩)
        have N12 := Lib.hid (N11.out.trans hn12)
        have RP := Lib.hid hp
        clear hn12 hp
        go_wp2_with fail
        refine (BO.out w12 _ a f (H0.out.nx N12.out) K0.out A0.out HF.out.1 HF.out.2).mono ?_
        rintro e w13 ⟨q, n13, rfl, rfl, hq, hn13⟩
        obtain ⟨qA, qn, qc, rfl⟩ : ∃ A n c, q = .slice A n c := by (obtain ⟨A, c, e⟩ := hq.form; exact ⟨_, _, _, e⟩)
        have N13 := Lib.hid (N12.out.trans hn13)
        have RP13 := Lib.hid (RP.out.nx hn13)
        have RQ := Lib.hid hq
        clear hn13 hq RP
        by_cases hne : d = f
        · subst hne
          have dd : (d == d) = true := by simp
          go_wp2_with fail
          refine (BA.out w13 _ _ d RP13.out PO.out.2 PO.out.1).mono ?_
          rintro e w14 ⟨pq, n14, rfl, hn14⟩
          have N14 := Lib.hid (N13.out.trans hn14)
          have RP14 := Lib.hid (RP13.out.nx hn14)
          have RQ14 := Lib.hid (RQ.out.nx hn14)
          clear hn14 RP13 RQ
          go_wp2_with fail
          refine (BA.out w14 _ _ d RQ14.out QO.out.2 QO.out.1).mono ?_
          rintro e w15 ⟨qp, n15, rfl, hn15⟩
          have N15 := Lib.hid (N14.out.trans hn15)
          have RP15 := Lib.hid (RP14.out.nx hn15)
          have RQ15 := Lib.hid (RQ14.out.nx hn15)
          clear hn15 RP14 RQ14
          go_wp2_with fail
          refine (M2.out w15 _ _ _ _ RP15.out RQ15.out PO.out.1 QO.out.1).mono ?_
          rintro e w16 ⟨bo, n16, rfl, rfl, hbo, hn16⟩
          have N16 := Lib.hid (N15.out.trans hn16)
          have RP16 := Lib.hid (RP15.out.nx hn16)
          have RQ16 := Lib.hid (RQ15.out.nx hn16)
          clear hn16 RP15 RQ15 hbo
          go_wp2_with fail
          refine (VE.out w16 _ _ _ _ RP16.out RQ16.out rfl PO.out.1).mono ?_
          rintro e w17 ⟨rfl, hn17⟩
          have N17 := Lib.hid (N16.out.trans hn17)
          have RP17 := Lib.hid (RP16.out.nx hn17)
          clear hn17 RP16 RQ16
          have hvx : vl (bmp a d) d = vl a d + 1 := bmp_self A0.out HD.out.1
          obtain ⟨x1, hx1⟩ : ∃ x, vl a d = x := ⟨_, rfl⟩
          have hx2 : x1 < 18446744073709551615 := by
            have := vl_small (d := d) K0.out.small (by omega)
            have := HD.out.2
            omega
          rw [hx1] at hvx
          have HVX := Lib.hid hvx
          have HX1 := Lib.hid hx1
          have hw : IntKind.u64.wrap ((x1 : Int) + 1) = ((x1 + 1 : Nat) : Int) := by rw [IntWalk.u64_in _ (by omega)]; omega
          clear hvx hx1 hx2
          obtain ⟨x2, hx2⟩ : ∃ x, x1 + 1 = x := ⟨_, rfl⟩
          rw [hx2] at hw HVX
          have zz : ((x2 : Int) == (x2 : Int)) = true := by simp
          clear hx2
          go_wp2_with fail
          refine (VA.out w17 _ _ d x2 RP17.out PO.out.1 HVX.out).mono ?_
          rintro e w18 ⟨rfl, hn18⟩
          have N18 := Lib.hid (N17.out.trans hn18)
          clear hn18 RP17
          go_wp2_with fail
          refine (VA.out w18 _ a d x1 (H0.out.nx N18.out) A0.out HX1.out).mono ?_
          rintro e w19 ⟨rfl, hn19⟩
          have N19 := Lib.hid (N18.out.trans hn19)
          clear hn19
          go_wp2
          go_ret
          exact ⟨rfl, N19.out⟩
        · have dd : (d == f) = false := by simpa using hne
          have HNE := Lib.hid hne
          clear hne
          have PF : Hid (vl (bmp a d) f ≠ 18446744073709551615) := by show _ ≠ _; rw [bmp_other A0.out HD.out.1 HNE.out]; exact HF.out.2
          have QD : Hid (vl (bmp a f) d ≠ 18446744073709551615) := by show _ ≠ _; rw [bmp_other A0.out HF.out.1 (fun e => HNE.out e.symm)]; exact HD.out.2
          have VPQ := Lib.hid (bmp_ok PO.out.1 PO.out.2 HF.out.1 PF.out)
          go_wp2_with fail
          refine (BO.out w13 _ _ f RP13.out PO.out.2 PO.out.1 HF.out.1 PF.out).mono ?_
          rintro e w14 ⟨pq, n14, rfl, rfl, hpq, hn14⟩
          have N14 := Lib.hid (N13.out.trans hn14)
          have RP14 := Lib.hid (RP13.out.nx hn14)
          have RQ14 := Lib.hid (RQ.out.nx hn14)
          have RPQ := Lib.hid hpq
          clear hn14 RP13 RQ hpq
          go_wp2_with fail
          refine (BO.out w14 _ _ d RQ14.out QO.out.2 QO.out.1 HD.out.1 QD.out).mono ?_
          rintro e w15 ⟨qp, n15, rfl, rfl, hqp, hn15⟩
          have N15 := Lib.hid (N14.out.trans hn15)
          have RP15 := Lib.hid (RP14.out.nx hn15)
          have RQ15 := Lib.hid (RQ14.out.nx hn15)
          have RPQ15 := Lib.hid (RPQ.out.nx hn15)
          have RQP := Lib.hid hqp
          clear hn15 RP14 RQ14 RPQ hqp
          go_wp2_with fail
          refine (M2.out w15 _ _ _ _ RP15.out RQ15.out PO.out.1 QO.out.1).mono ?_
          rintro e w16 ⟨bo, n16, rfl, rfl, hbo, hn16⟩
          have N16 := Lib.hid (N15.out.trans hn16)
          have RP16 := Lib.hid (RP15.out.nx hn16)
          have RQ16 := Lib.hid (RQ15.out.nx hn16)
          have RPQ16 := Lib.hid (RPQ15.out.nx hn16)
          have RQP16 := Lib.hid (RQP.out.nx hn16)
          have RBO := Lib.hid hbo
          clear hn16 RP15 RQ15 RPQ15 RQP hbo
          go_wp2_with fail
          refine (VE.out w16 _ _ _ _ RPQ16.out RQP16.out (bmp_comm A0.out HD.out.1 HF.out.1) VPQ.out.1).mono ?_
          rintro e w17 ⟨rfl, hn17⟩
          have N17 := Lib.hid (N16.out.trans hn17)
          have RP17 := Lib.hid (RP16.out.nx hn17)
          have RQ17 := Lib.hid (RQ16.out.nx hn17)
          have RPQ17 := Lib.hid (RPQ16.out.nx hn17)
          have RBO17 := Lib.hid (RBO.out.nx hn17)
          clear hn17 RP16 RQ16 RPQ16 RQP16 RBO
          go_wp2_with fail
          refine (VE.out w17 _ _ _ _ RBO17.out RPQ17.out (bmp_both A0.out HD.out.1 HF.out.1 HNE.out) (mgs_vld (all_cons PO.out.1 (all1 QO.out.1)))).mono ?_
          rintro e w18 ⟨rfl, hn18⟩
          have N18 := Lib.hid (N17.out.trans hn18)
          have RP18 := Lib.hid (RP17.out.nx hn18)
          have RQ18 := Lib.hid (RQ17.out.nx hn18)
          clear hn18 RP17 RQ17 RPQ17 RBO17
          go_wp2_with fail
          refine (CO.out w18 _ _ _ _ 4 RP18.out RQ18.out PO.out.1 QO.out.1 (bmp_beside A0.out HD.out.1 HF.out.1 HNE.out)).mono ?_
          rintro e w19 ⟨rfl, hn19⟩
          have N19 := Lib.hid (N18.out.trans hn19)
          have RP19 := Lib.hid (RP18.out.nx hn19)
          have RQ19 := Lib.hid (RQ18.out.nx hn19)
          clear hn19 RP18 RQ18
          have OD : ∃ r s : Int, od (bmp a d) (bmp a f) = r ∧ od (bmp a f) (bmp a d) = s ∧ ((r = 1 ∧ s = -1) ∨ (r = -1 ∧ s = 1)) := by
            have h0 : od (bmp a d) (bmp a f) ≠ 0 := fun e => bmp_ne A0.out HD.out.1 HF.out.1 HNE.out ((od_0 PO.out.1 QO.out.1).1 e)
            have h1 := od_swap PO.out.1 QO.out.1
            refine ⟨_, _, rfl, rfl, ?_⟩
            rcases od_in (bmp a d) (bmp a f) with h | h | h
            · right; exact ⟨h, by omega⟩
            · exact absurd h h0
            · left; exact ⟨h, by omega⟩
          obtain ⟨r, s, hr, hs, hrs⟩ := OD
          have HR := Lib.hid hr
          have HS := Lib.hid hs
          clear hr hs
          rcases hrs with ⟨rfl, rfl⟩ | ⟨rfl, rfl⟩ <;> (
            go_wp2_with fail
            refine (OR.out w19 _ _ _ _ _ RP19.out RQ19.out PO.out.1 QO.out.1 PO.out.2 QO.out.2 HR.out).mono ?_
            rintro e w20 ⟨rfl, hn20⟩
            have N20 := Lib.hid (N19.out.trans hn20)
            have RP20 := Lib.hid (RP19.out.nx hn20)
            have RQ20 := Lib.hid (RQ19.out.nx hn20)
            clear hn20 RP19 RQ19
            go_wp2_with fail
            refine (OR.out w20 _ _ _ _ _ RQ20.out RP20.out QO.out.1 PO.out.1 QO.out.2 PO.out.2 HS.out).mono ?_
            rintro e w21 ⟨rfl, hn21⟩
            have N21 := Lib.hid (N20.out.trans hn21)
            have RP21 := Lib.hid (RP20.out.nx hn21)
            have RQ21 := Lib.hid (RQ20.out.nx hn21)
            clear hn21 RP20 RQ20
            go_wp2_with fail
            refine (OR.out w21 _ _ _ _ _ RP21.out RQ21.out PO.out.1 QO.out.1 PO.out.2 QO.out.2 HR.out).mono ?_
            rintro e w22 ⟨rfl, hn22⟩
            have N22 := Lib.hid (N21.out.trans hn22)
            clear hn22 RP21 RQ21
            go_wp2
            go_ret
            exact ⟨rfl, N22.out⟩))
    · have HD := Lib.hid hd
      have HF := Lib.hid hf
      clear hd hf BA VA
      rcases HRR with rfl | rfl <;> (
        go_wp2_with fail
        refine (BO.out w11 _ a d (H0.out.nx N11.out) K0.out A0.out HD.out.1 HD.out.2).mono ?_
        rintro e w12 ⟨p, n12, rfl, rfl, hp, hn12⟩
        have N12 := Lib.hid (N11.out.trans hn12)
        obtain ⟨pA, pn, pc, rfl⟩ : ∃ A n c, p = .slice A n c := by obtain ⟨A, c, e⟩ := hp.form; exact ⟨_, _, _, e⟩
        clear hn12 hp
        go_wp2_with fail
        refine (BB.out w12 _ a f (H0.out.nx N12.out) K0.out A0.out HF.out).mono ?_
        rintro e w13 ⟨q, n13, rfl, hq, rfl, hn13⟩
        have N13 := Lib.hid (N12.out.trans hn13)
        clear hn13
        cases hz : ((pn : Int) == 0) <;> rcases hq with rfl | rfl <;> (
          go_wp2
          go_ret
          exact ⟨rfl, N13.out⟩))
  · have HD := Lib.hid hd
    clear hd VA
    by_cases hf : devB f = true ∧ vl a f ≠ 18446744073709551615
    · have HF := Lib.hid hf
      clear hf BA
      rcases HRR with rfl | rfl <;> (
        go_wp2_with fail
        refine (BB.out w11 _ a d (H0.out.nx N11.out) K0.out A0.out HD.out).mono ?_
        rintro e w12 ⟨p, n12, rfl, hp, rfl, hn12⟩
        have N12 := Lib.hid (N11.out.trans hn12)
        clear hn12
        go_wp2_with fail
        refine (BO.out w12 _ a f (H0.out.nx N12.out) K0.out A0.out HF.out.1 HF.out.2).mono ?_
        rintro e w13 ⟨q, n13, rfl, rfl, hq, hn13⟩
        have N13 := Lib.hid (N12.out.trans hn13)
        clear hn13 hq
        rcases hp with rfl | rfl <;> (
          go_wp2
          go_ret
          exact ⟨rfl, N13.out⟩))
    · have HF := Lib.hid hf
      clear hf BA
      rcases HRR with rfl | rfl <;> (
        go_wp2_with fail
        refine (BB.out w11 _ a d (H0.out.nx N11.out) K0.out A0.out HD.out).mono ?_
        rintro e w12 ⟨p, n12, rfl, hp, rfl, hn12⟩
        have N12 := Lib.hid (N11.out.trans hn12)
        clear hn12
        go_wp2_with fail
        refine (BB.out w12 _ a f (H0.out.nx N12.out) K0.out A0.out HF.out).mono ?_
        rintro e w13 ⟨q, n13, rfl, hq, rfl, hn13⟩
        have N13 := Lib.hid (N12.out.trans hn13)
        clear hn13 hq
        rcases hp with rfl | rfl <;> (
          go_wp2
          go_ret
          exact ⟨rfl, N13.out⟩))
end Go.Proofs.Ytlmfjalkgapcgaa

/- The law VectorOrders. -/
import Derived.Test.YtlmfjalkgapcgaaVcBytes
import Derived.Deep.DeepCutAuto
namespace Go.Proofs.Ytlmfjalkgapcgaa
open Go.RowKit
set_option linter.unusedVariables false

attribute [local go_sem] Oper.semAt_some

def tn (x : Int) : Int := if x = 2 then 3 else if x = 3 then 2 else x
set_option maxRecDepth 100000 in
theorem turned_any (w : World) (x : Int) : Calls Try.prog 9 #[.int .i64 x] w fun e w' => e = .returned (.int .i64 (tn x)) ∧ Nx w w' := by
  by_cases h : x = 2
  · subst h
    go_enter Try.func9, Try.ntmps9
    go_wp2
    go_ret
    exact ⟨rfl, Nx.refl _⟩
  · have h1 : (x == 2) = false := by simpa using h
    by_cases h2 : x = 3
    · subst h2
      go_enter Try.func9, Try.ntmps9
      go_wp2
      go_ret
      exact ⟨rfl, Nx.refl _⟩
    · have h3 : (x == 3) = false := by simpa using h2
      have HT : Hid (tn x = x) := by show tn x = x; unfold tn; rw [if_neg h, if_neg h2]
      clear h h2
      go_enter Try.func9, Try.ntmps9
      go_wp2
      go_ret
      exact ⟨by rw [HT.out]; rfl, Nx.refl _⟩
set_option maxRecDepth 100000 in
theorem least_any (w : World) (v v2 : Value) (l o : List Ct) (h : RdG ctE w v l) (h2 : RdG ctE w v2 o) (k : vld 0 l = true) (k2 : vld 0 o = true) :
    Calls Try.prog 12 #[v, v2] w fun e w' => e = .returned (.bool (decide (cp l o = 2 ∨ cp l o = 1))) ∧ Nx w w' := by
  have CM := Lib.hid (compare_any w v v2 l o h h2 (by have := vld_len16 k; have := vld_len16 k2; omega))
  rw [k, k2, if_pos (by rfl)] at CM
  obtain ⟨r, hr⟩ : ∃ r, cp l o = r := ⟨_, rfl⟩
  rw [hr] at CM ⊢
  clear h h2 hr
  go_enter Try.func12, Try.ntmps12
  go_wp2_with fail
  refine CM.out.mono ?_
  rintro e w2 ⟨rfl, hn2⟩
  have N2 := Lib.hid hn2
  clear CM hn2
  cases z : (r == 2) with
  | true =>
    have F : Hid (decide (r = 2 ∨ r = 1) = true) := decide_eq_true (.inl (by simpa using z))
    go_wp2
    go_ret
    exact ⟨by rw [F.out]; rfl, N2.out⟩
  | false =>
    cases z2 : (r == 1) with
    | true =>
      have F : Hid (decide (r = 2 ∨ r = 1) = true) := decide_eq_true (.inr (by simpa using z2))
      go_wp2
      go_ret
      exact ⟨by rw [F.out]; rfl, N2.out⟩
    | false =>
      have F : Hid (decide (r = 2 ∨ r = 1) = false) := decide_eq_false fun e => by
        rcases e with e | e
        · rw [e] at z; cases z
        · rw [e] at z2; cases z2
      go_wp2
      go_ret
      exact ⟨by rw [F.out]; rfl, N2.out⟩

section
variable {a b c : List Ct}
theorem mgs2 (ha : vld 0 a = true) : mgs [a, b] = mg a b := by
  show mg (mg [] a) b = _
  rw [mg_nil_l ha]
theorem cp_swap_tn (ha : vld 0 a = true) (hb : vld 0 b = true) : cp b a = tn (cp a b) := by
  rw [cp_swap ha hb]
  unfold cp
  cases (ag a b).any lessP <;> cases (ag a b).any moreP <;> rfl
theorem cp_trans (ha : vld 0 a = true) (hb : vld 0 b = true) (hc : vld 0 c = true) (h : cp a b = 2) (k : cp b c = 2 ∨ cp b c = 1) : cp a c = 2 := by
  obtain ⟨⟨d, h1⟩, h2⟩ := (cp_2 ha hb).1 h
  have k2 := (cp_le hb hc).1 k
  exact (cp_2 ha hc).2 ⟨⟨d, by have := k2 d; omega⟩, fun e => by have := h2 e; have := k2 e; omega⟩
end

/-- What is known of comparisons. -/
structure OrdP (x y z u v s : Int) (eq : Bool) : Prop where
  hc : x = 1 ∧ u = 0 ∨ x = 2 ∧ u = -1 ∨ x = 3 ∧ u = 1 ∨ x = 3 ∧ u = -1 ∨ x = 4 ∧ u = -1 ∨ x = 4 ∧ u = 1
  hy : y = 1 ∨ y = 2 ∨ y = 3 ∨ y = 4
  hv : v = -1 ∨ v = 0 ∨ v = 1
  hs : s = -1 ∨ s = 0 ∨ s = 1
  htr : x = 2 → y = 2 ∨ y = 1 → z = 2
  hle : u ≤ 0 → v ≤ 0 → s ≤ 0
  hlt : u < 0 → v ≤ 0 → s < 0
  hq : eq = decide (x = 1)
theorem ordP {a b c : List Ct} (ha : vld 0 a = true) (hb : vld 0 b = true) (hc : vld 0 c = true) : OrdP (cp a b) (cp b c) (cp a c) (od a b) (od b c) (od a c) (decide (a = b)) := by
  refine ⟨?_, cp_in b c, od_in b c, od_in a c, cp_trans ha hb hc, od_le_trans ha hb hc, od_lt_trans ha hb hc, ?_⟩
  · have h1 : cp a b = 1 ↔ od a b = 0 := by rw [cp_1 ha hb, od_0 ha hb]
    have h2 := od_before ha hb
    have h3 := cp_in a b
    have h4 := od_in a b
    omega
  · have := cp_1 ha hb
    by_cases h : a = b
    · rw [decide_eq_true h, decide_eq_true (this.2 h)]
    · rw [decide_eq_false h, decide_eq_false fun e => h (this.1 e)]

set_option maxRecDepth 100000 in
set_option maxHeartbeats 8000000 in
theorem orders_any (w : World) (v0 v1 v2 : Value) (a b c : List Ct) (d : Int) (h0 : RdG ctE w v0 a) (h1 : RdG ctE w v1 b) (h2 : RdG ctE w v2 c) (k0 : CtsOk a) (k1 : CtsOk b) (k2 : CtsOk c) :
    Calls Try.prog 3 #[v0, v1, v2, .int .i64 d] w fun e w' => e = .returned (.bool true) ∧ Nx w w' := by
  have LI := Lib.hid (lives_any w)
  have CH : Hid (∀ W v (l : List Ct), RdG ctE W v l → Calls Try.prog 6 #[v] W fun e w' => e = .returned (.int .i64 (if vld 0 l then 0 else 2)) ∧ Nx W w') := fun W v l h => check_any W v l h (by
    obtain ⟨_, _, _, q1, q2, _⟩ := h
    unfold maxLen at q2; omega)
  have M2 : Hid (∀ W x y (p q : List Ct), RdG ctE W x p → RdG ctE W y q → vld 0 p = true → vld 0 q = true → Calls Try.prog 11 #[.slice (some ⟨W.heap.size, 0, none⟩) 2 2] (W.alloc (.cells #[x, y] 22)) (Ret2 fun s n w' => n = 0 ∧ RdG ctE w' s (mg p q) ∧ Nx W w')) := fun W x y p q h1 h2 k1 k2 => by
    rw [← mgs2 k1]
    exact (merge_ok _ _ _ (sls2 22 h1 h2) (by simp) (all_cons k1 (all1 k2))).mono fun e w' ⟨r, n, e1, h1, h2, h3⟩ => ⟨r, n, e1, h1, h2.rd, ((Nx.refl W).alloc _).trans h3⟩
  have VE : Hid (∀ W x y (p q : List Ct) (r : Bool), RdG ctE W x p → RdG ctE W y q → decide (p = q) = r → vld 0 p = true → Calls Try.prog 10 #[x, y] W fun e w' => e = .returned (.bool r) ∧ Nx W w') := fun W x y p q r h1 h2 e k => by
    have := vector_any W x y p q h1 h2 (by have := vld_len16 k; omega)
    rw [e] at this
    exact this
  have CO : Hid (∀ W x y (p q : List Ct) (r : Int), RdG ctE W x p → RdG ctE W y q → vld 0 p = true → vld 0 q = true → cp p q = r → Calls Try.prog 7 #[x, y] W fun e w' => e = .returned (.int .i64 r) ∧ Nx W w') := fun W x y p q r h1 h2 k1 k2 e => by
    have := compare_any W x y p q h1 h2 (by have := vld_len16 k1; have := vld_len16 k2; omega)
    rw [k1, k2, if_pos (by rfl), e] at this
    exact this
  have LE : Hid (∀ W x y (p q : List Ct) (r : Bool), RdG ctE W x p → RdG ctE W y q → vld 0 p = true → vld 0 q = true → decide (cp p q = 2 ∨ cp p q = 1) = r → Calls Try.prog 12 #[x, y] W fun e w' => e = .returned (.bool r) ∧ Nx W w') := fun W x y p q r h1 h2 k1 k2 e => by
    rw [← e]
    exact least_any W x y p q h1 h2 k1 k2
  have TU : Hid (∀ W (x r : Int), tn x = r → Calls Try.prog 9 #[.int .i64 x] W fun e w' => e = .returned (.int .i64 r) ∧ Nx W w') := fun W x r e => by
    rw [← e]
    exact turned_any W x
  have OR : Hid (∀ W x y (p q : List Ct) (r : Int), RdG ctE W x p → RdG ctE W y q → vld 0 p = true → vld 0 q = true → CtsOk p → CtsOk q → od p q = r → Calls Try.prog 8 #[x, y] W fun e w' => e = .returned (.int .i64 r) ∧ Nx W w') := fun W x y p q r h1 h2 k1 k2 c1 c2 e => by
    have := order_any W x y p q h1 h2 c1 c2 (by have := vld_len16 k1; have := vld_len16 k2; omega)
    rw [k1, k2, if_pos (by rfl), e] at this
    exact this
  have BY : Hid (∀ W v, RdG ctE W v a → vld 0 a = true → Calls Try.prog 13 #[v] W (Ret2 fun r n w' => n = 0 ∧ (∃ A k c, r = .slice A k c ∧ Own w' W.heap.size A k c (encV a)) ∧ Nx W w')) := fun W v h hv =>
    (bytes_any W v a h k0 (by have := vld_len16 hv; omega)).mono fun e w' ⟨r, n, e1, h1, h2⟩ => by
      unfold BytesR at h1
      rw [if_pos hv] at h1
      exact ⟨r, n, e1, h1.2, h1.1, h2⟩
  have RE : Hid (∀ W A k c, vld 0 a = true → Own W 0 A k c (encV a) → Calls Try.prog 14 #[.slice A k c] W (Ret2 fun r n w' => n = 0 ∧ RdG ctE w' r a ∧ Nx W w')) := fun W A k c hv h =>
    (read_any W W.heap.size k c A (encV a) h.byt (Nat.le_refl _) (fun e => by
      subst e
      rcases h.2 with ⟨e, h0⟩ | ⟨g, cap, cur, e, _⟩
      · simp only [Value.slice.injEq] at e
        exact ⟨h0, e.2.2⟩
      · cases e) (by
      have h1 := h.len
      unfold encV at h1
      rw [List.length_append] at h1
      have := enc_length a.length
      have := ctBs_len a
      have := vld_len16 hv
      omega)).mono fun e w' ⟨r, n, e1, h1, h2⟩ => by
      unfold ReadR at h1
      rw [readV_enc hv k0] at h1
      exact ⟨r, n, e1, h1.2, h1.1.rd, h2⟩
  obtain ⟨A0', c0', rfl⟩ := h0.form
  obtain ⟨A1', c1', rfl⟩ := h1.form
  obtain ⟨A2', c2', rfl⟩ := h2.form
  have H0 := Lib.hid h0
  have H1 := Lib.hid h1
  have H2 := Lib.hid h2
  have K0 := Lib.hid k0
  have K1 := Lib.hid k1
  have K2 := Lib.hid k2
  clear h0 h1 h2 k0 k1 k2
  go_enter Try.func3, Try.ntmps3
  go_wp2_with fail
  refine LI.out.mono ?_
  rintro e w1 ⟨rfl, hn1⟩
  have N1 := Lib.hid hn1
  clear hn1 LI
  go_wp2_with fail
  refine (CH.out w1 _ a (H0.out.nx N1.out)).mono ?_
  rintro e w2 ⟨rfl, hn2⟩
  have N2 := Lib.hid (N1.out.trans hn2)
  clear hn2
  cases ha : vld 0 a with
  | false =>
    go_wp2
    go_ret
    exact ⟨rfl, N2.out⟩
  | true =>
  have A0 := Lib.hid ha
  clear ha
  go_wp2_with fail
  refine (CH.out w2 _ b (H1.out.nx N2.out)).mono ?_
  rintro e w3 ⟨rfl, hn3⟩
  have N3 := Lib.hid (N2.out.trans hn3)
  clear hn3
  cases hb : vld 0 b with
  | false =>
    go_wp2
    go_ret
    exact ⟨rfl, N3.out⟩
  | true =>
  have B0 := Lib.hid hb
  clear hb
  go_wp2_with fail
  refine (CH.out w3 _ c (H2.out.nx N3.out)).mono ?_
  rintro e w4 ⟨rfl, hn4⟩
  have N4 := Lib.hid (N3.out.trans hn4)
  clear hn4
  cases hc : vld 0 c with
  | false =>
    go_wp2
    go_ret
    exact ⟨rfl, N4.out⟩
  | true =>
  have C0 := Lib.hid hc
  clear hc CH
  have OP := Lib.hid (ordP A0.out B0.out C0.out)
  have SW := Lib.hid (cp_swap_tn A0.out B0.out)
  have SO := Lib.hid (od_swap A0.out B0.out)
  obtain ⟨x, hx⟩ : ∃ x, cp a b = x := ⟨_, rfl⟩
  obtain ⟨y, hy⟩ : ∃ x, cp b c = x := ⟨_, rfl⟩
  obtain ⟨z, hz⟩ : ∃ x, cp a c = x := ⟨_, rfl⟩
  obtain ⟨u, hu⟩ : ∃ x, od a b = x := ⟨_, rfl⟩
  obtain ⟨v, hv⟩ : ∃ x, od b c = x := ⟨_, rfl⟩
  obtain ⟨s, hs⟩ : ∃ x, od a c = x := ⟨_, rfl⟩
  obtain ⟨q, hq⟩ : ∃ x, decide (a = b) = x := ⟨_, rfl⟩
  rw [hx, hy, hz, hu, hv, hs, hq] at OP
  rw [hx] at SW
  rw [hu] at SO
  have HX := Lib.hid hx
  have HY := Lib.hid hy
  have HZ := Lib.hid hz
  have HU := Lib.hid hu
  have HV := Lib.hid hv
  have HS := Lib.hid hs
  have HQ := Lib.hid hq
  clear hx hy hz hu hv hs hq
  go_wp2_with fail
  refine (CO.out w4 _ _ a b x (H0.out.nx N4.out) (H1.out.nx N4.out) A0.out B0.out HX.out).mono ?_
  rintro e w5 ⟨rfl, hn5⟩
  have N5 := Lib.hid (N4.out.trans hn5)
  clear hn5
  go_wp2_with fail
  refine (CO.out w5 _ _ b c y (H1.out.nx N5.out) (H2.out.nx N5.out) B0.out C0.out HY.out).mono ?_
  rintro e w6 ⟨rfl, hn6⟩
  have N6 := Lib.hid (N5.out.trans hn6)
  clear hn6
  go_wp2_with fail
  refine (CO.out w6 _ _ a c z (H0.out.nx N6.out) (H2.out.nx N6.out) A0.out C0.out HZ.out).mono ?_
  rintro e w7 ⟨rfl, hn7⟩
  have N7 := Lib.hid (N6.out.trans hn7)
  clear hn7
  go_wp2_with fail
  refine (OR.out w7 _ _ a b u (H0.out.nx N7.out) (H1.out.nx N7.out) A0.out B0.out K0.out K1.out HU.out).mono ?_
  rintro e w8 ⟨rfl, hn8⟩
  have N8 := Lib.hid (N7.out.trans hn8)
  clear hn8
  go_wp2_with fail
  refine (OR.out w8 _ _ b c v (H1.out.nx N8.out) (H2.out.nx N8.out) B0.out C0.out K1.out K2.out HV.out).mono ?_
  rintro e w9 ⟨rfl, hn9⟩
  have N9 := Lib.hid (N8.out.trans hn9)
  clear hn9
  go_wp2_with fail
  refine (OR.out w9 _ _ a c s (H0.out.nx N9.out) (H2.out.nx N9.out) A0.out C0.out K0.out K2.out HS.out).mono ?_
  rintro e w10 ⟨rfl, hn10⟩
  have N10 := Lib.hid (N9.out.trans hn10)
  clear hn10
  go_upto_region 7 with fail
  go_cut [84] from 55 (fun r wx => r = .bool false ∧ Hid (Nx w wx))
  case first =>
    obtain ⟨t, ht⟩ : ∃ t, tn x = t := ⟨_, rfl⟩
    have HT := Lib.hid ht
    rw [ht] at SW
    clear ht
    have g1 : (x == 1) = q := by rw [OP.out.hq]; by_cases h : x = 1 <;> simp [h]
    have cs : ((x == 2) = false ∧ True) ∨ (x = 2 ∧ y = 2 ∧ z = 2) ∨ (x = 2 ∧ y = 1 ∧ z = 2) ∨ (x = 2 ∧ (y == 2) = false ∧ (y == 1) = false ∧ True) := by
      have h3 := OP.out.htr
      by_cases h : x = 2
      · by_cases k : y = 2
        · exact .inr (.inl ⟨h, k, h3 h (.inl k)⟩)
        · by_cases k2 : y = 1
          · exact .inr (.inr (.inl ⟨h, k2, h3 h (.inr k2)⟩))
          · exact .inr (.inr (.inr ⟨h, by simp [k], by simp [k2], trivial⟩))
      · exact .inl ⟨by simp [h], trivial⟩
    go_wp2_with fail
    refine (CO.out w10 _ _ b a t (H1.out.nx N10.out) (H0.out.nx N10.out) B0.out A0.out SW.out).mono ?_
    rintro e w11 ⟨rfl, hn11⟩
    have N11 := Lib.hid (N10.out.trans hn11)
    clear hn11
    go_wp2_with fail
    refine (TU.out w11 x t HT.out).mono ?_
    rintro e w12 ⟨rfl, hn12⟩
    have N12 := Lib.hid (N11.out.trans hn12)
    clear hn12
    rcases cs with ⟨f1, -⟩ | ⟨rfl, rfl, rfl⟩ | ⟨rfl, rfl, rfl⟩ | ⟨rfl, f2, f3, -⟩ <;> (
      go_wp2_with fail
      refine (VE.out w12 _ _ a b _ (H0.out.nx N12.out) (H1.out.nx N12.out) HQ.out A0.out).mono ?_
      rintro e w13 ⟨rfl, hn13⟩
      have N13 := Lib.hid (N12.out.trans hn13)
      clear hn13
      go_wp2
      go_meet
      exact ⟨rfl, N13.out⟩)
  case rest =>
  obtain ⟨rfl, N11⟩ := hcut
  go_upto_region 9 with fail
  go_cut [129] from 85 (fun r wx => r = .bool false ∧ Hid (Nx w wx))
  case first =>
    obtain ⟨t, ht⟩ : ∃ t, -u = t := ⟨_, rfl⟩
    have hc := OP.out.hc
    have hneg : IntKind.i64.wrap (-u) = t := by rw [IntWalk.i64_in _ (by omega), ht]
    have g1 : (x == 1) = q := by rw [OP.out.hq]; by_cases h : x = 1 <;> simp [h]
    have g2 : (u == 0) = q := by
      rw [OP.out.hq]
      rcases hc with ⟨rfl, rfl⟩ | ⟨rfl, rfl⟩ | ⟨rfl, rfl⟩ | ⟨rfl, rfl⟩ | ⟨rfl, rfl⟩ | ⟨rfl, rfl⟩ <;> rfl
    have cs : (x = 2 ∧ u = -1 ∧ t = 1 ∧ ((decide (v ≤ 0) = true ∧ decide (0 < s) = false ∧ decide (0 ≤ s) = false) ∨ (decide (v ≤ 0) = false ∧ True))) ∨
        ((x == 2) = false ∧ decide (u ≤ 0) = false ∧ decide (u < 0) = false) ∨
        ((x == 2) = false ∧ decide (u ≤ 0) = true ∧ decide (u < 0) = true ∧ ((decide (v ≤ 0) = true ∧ decide (0 < s) = false ∧ decide (0 ≤ s) = false) ∨ (decide (v ≤ 0) = false ∧ True))) ∨
        ((x == 2) = false ∧ decide (u ≤ 0) = true ∧ decide (u < 0) = false ∧ ((decide (v ≤ 0) = true ∧ decide (0 < s) = false) ∨ (decide (v ≤ 0) = false ∧ True))) := by
      have h4 := OP.out.hle
      have h5 := OP.out.hlt
      have d1 : ∀ {p : Prop} [Decidable p], p → decide p = true := fun h => decide_eq_true h
      have d2 : ∀ {p : Prop} [Decidable p], ¬ p → decide p = false := fun h => decide_eq_false h
      have vs : u < 0 → ((decide (v ≤ 0) = true ∧ decide (0 < s) = false ∧ decide (0 ≤ s) = false) ∨ (decide (v ≤ 0) = false ∧ True)) := fun hu => by
        by_cases hv : v ≤ 0
        · have := h5 hu hv
          exact .inl ⟨d1 hv, d2 (by omega), d2 (by omega)⟩
        · exact .inr ⟨d2 hv, trivial⟩
      have vs2 : u ≤ 0 → ((decide (v ≤ 0) = true ∧ decide (0 < s) = false) ∨ (decide (v ≤ 0) = false ∧ True)) := fun hu => by
        by_cases hv : v ≤ 0
        · have := h4 hu hv
          exact .inl ⟨d1 hv, d2 (by omega)⟩
        · exact .inr ⟨d2 hv, trivial⟩
      by_cases hx : x = 2
      · have hu : u = -1 := by omega
        exact .inl ⟨hx, hu, by omega, vs (by omega)⟩
      · have hx' : (x == 2) = false := by simp [hx]
        by_cases hu : u ≤ 0
        · by_cases hu2 : u < 0
          · exact .inr (.inr (.inl ⟨hx', d1 hu, d1 hu2, vs hu2⟩))
          · exact .inr (.inr (.inr ⟨hx', d1 hu, d2 hu2, vs2 hu⟩))
        · exact .inr (.inl ⟨hx', d2 hu, d2 (by omega)⟩)
    rw [ht] at SO
    clear ht hc
    go_wp2_with fail
    refine (OR.out wc _ _ b a t (H1.out.nx N11.out) (H0.out.nx N11.out) B0.out A0.out K1.out K0.out SO.out).mono ?_
    rintro e w13 ⟨rfl, hn13⟩
    have N13 := Lib.hid (N11.out.trans hn13)
    clear hn13
    rcases cs with ⟨rfl, rfl, rfl, ⟨f5, f6, f7⟩ | ⟨f5, -⟩⟩ | ⟨f1, f2, f3⟩ | ⟨f1, f2, f3, ⟨f5, f6, f7⟩ | ⟨f5, -⟩⟩ | ⟨f1, f2, f3, ⟨f5, f6⟩ | ⟨f5, -⟩⟩ <;> (
      go_wp2
      go_meet
      exact ⟨rfl, N13.out⟩)
  case rest =>
  obtain ⟨rfl, N13⟩ := hcut
  clear OP SW SO HX HY HZ HU HV HS HQ TU OR
  go_wp2_with fail
  refine (M2.out wc _ _ a b (H0.out.nx N13.out) (H1.out.nx N13.out) A0.out B0.out).mono ?_
  rintro e w14 ⟨m, n14, rfl, rfl, hm, hn14⟩
  obtain ⟨mA, mn, mc, rfl⟩ : ∃ A n c, m = .slice A n c := by (obtain ⟨A, c, e⟩ := hm.form; exact ⟨_, _, _, e⟩)
  have N14 := Lib.hid (N13.out.trans hn14)
  have RM := Lib.hid hm
  clear hn14 hm
  go_wp2_with fail
  refine (M2.out w14 _ _ b a (H1.out.nx N14.out) (H0.out.nx N14.out) B0.out A0.out).mono ?_
  rintro e w15 ⟨k, n15, rfl, rfl, hm, hn15⟩
  obtain ⟨kA, kn, kc, rfl⟩ : ∃ A n c, k = .slice A n c := by (obtain ⟨A, c, e⟩ := hm.form; exact ⟨_, _, _, e⟩)
  have N15 := Lib.hid (N14.out.trans hn15)
  have RM15 := Lib.hid (RM.out.nx hn15)
  have RK := Lib.hid hm
  clear hn15 hm RM M2
  have MV := Lib.hid (mg_vld A0.out B0.out)
  go_upto_region 13 with fail
  go_cut [183] from 144 (fun r wx => r = .bool false ∧ Hid (Nx w wx))
  case first =>
    go_wp2_with fail
    refine (VE.out w15 _ _ _ _ true RM15.out RK.out (decide_eq_true (mg_comm A0.out B0.out)) MV.out).mono ?_
    rintro e w16 ⟨rfl, hn16⟩
    have N16 := Lib.hid (N15.out.trans hn16)
    have RM16 := Lib.hid (RM15.out.nx hn16)
    clear hn16 RM15 RK
    have L1 : Hid (decide (cp a (mg a b) = 2 ∨ cp a (mg a b) = 1) = true) := decide_eq_true ((cp_le A0.out MV.out).2 fun e => (mg_up A0.out B0.out e).1)
    have L2 : Hid (decide (cp b (mg a b) = 2 ∨ cp b (mg a b) = 1) = true) := decide_eq_true ((cp_le B0.out MV.out).2 fun e => (mg_up A0.out B0.out e).2)
    go_wp2_with fail
    refine (LE.out w16 _ _ _ _ true (H0.out.nx N16.out) RM16.out A0.out MV.out L1.out).mono ?_
    rintro e w17 ⟨rfl, hn17⟩
    have N17 := Lib.hid (N16.out.trans hn17)
    have RM17 := Lib.hid (RM16.out.nx hn17)
    clear hn17 RM16
    go_wp2_with fail
    refine (LE.out w17 _ _ _ _ true (H1.out.nx N17.out) RM17.out B0.out MV.out L2.out).mono ?_
    rintro e w18 ⟨rfl, hn18⟩
    have N18 := Lib.hid (N17.out.trans hn18)
    have RM18 := Lib.hid (RM17.out.nx hn18)
    clear hn18 RM17
    obtain ⟨p1, hp1⟩ : ∃ p, decide (cp a c = 2 ∨ cp a c = 1) = p := ⟨_, rfl⟩
    obtain ⟨p2, hp2⟩ : ∃ p, decide (cp b c = 2 ∨ cp b c = 1) = p := ⟨_, rfl⟩
    have HP1 := Lib.hid hp1
    have HP2 := Lib.hid hp2
    have L3 : Hid (p1 = true → p2 = true → decide (cp (mg a b) c = 2 ∨ cp (mg a b) c = 1) = true) := fun e1 e2 => decide_eq_true ((cp_le MV.out C0.out).2 fun e => by
      have h1 := (cp_le A0.out C0.out).1 (of_decide_eq_true (HP1.out.trans e1)) e
      have h2 := (cp_le B0.out C0.out).1 (of_decide_eq_true (HP2.out.trans e2)) e
      rw [mg_vl A0.out B0.out]; omega)
    clear hp1 hp2
    go_wp2_with fail
    refine (LE.out w18 _ _ _ _ p1 (H0.out.nx N18.out) (H2.out.nx N18.out) A0.out C0.out HP1.out).mono ?_
    rintro e w19 ⟨rfl, hn19⟩
    have N19 := Lib.hid (N18.out.trans hn19)
    have RM19 := Lib.hid (RM18.out.nx hn19)
    clear hn19 RM18
    cases p1 with
    | false =>
      go_wp2
      go_meet
      exact ⟨rfl, N19.out⟩
    | true =>
      go_wp2_with fail
      refine (LE.out w19 _ _ _ _ p2 (H1.out.nx N19.out) (H2.out.nx N19.out) B0.out C0.out HP2.out).mono ?_
      rintro e w20 ⟨rfl, hn20⟩
      have N20 := Lib.hid (N19.out.trans hn20)
      have RM20 := Lib.hid (RM19.out.nx hn20)
      clear hn20 RM19
      cases p2 with
      | false =>
        go_wp2
        go_meet
        exact ⟨rfl, N20.out⟩
      | true =>
        go_wp2_with fail
        refine (LE.out w20 _ _ _ _ true RM20.out (H2.out.nx N20.out) MV.out C0.out (L3.out (by simp) (by simp))).mono ?_
        rintro e w21 ⟨rfl, hn21⟩
        have N21 := Lib.hid (N20.out.trans hn21)
        clear hn21 RM20
        go_wp2
        go_meet
        exact ⟨rfl, N21.out⟩
  case rest =>
  obtain ⟨rfl, N16⟩ := hcut
  clear LE MV RM15 RK
  go_wp2_with fail
  refine (BY.out wc _ (H0.out.nx N16.out) A0.out).mono ?_
  rintro e w17 ⟨by_, n17, rfl, rfl, ⟨bA, bn, bc, rfl, hb⟩, hn17⟩
  have N17 := Lib.hid (N16.out.trans hn17)
  have RB := Lib.hid (hb.more (Nat.zero_le _))
  clear hn17 hb BY
  go_wp2_with fail
  refine (RE.out w17 _ _ _ A0.out RB.out).mono ?_
  rintro e w18 ⟨r, n18, rfl, rfl, hr, hn18⟩
  have N18 := Lib.hid (N17.out.trans hn18)
  have RR := Lib.hid hr
  clear hn18 hr RE RB
  go_wp2_with fail
  refine (VE.out w18 _ _ _ _ true RR.out (H0.out.nx N18.out) (decide_eq_true rfl) A0.out).mono ?_
  rintro e w19 ⟨rfl, hn19⟩
  have N19 := Lib.hid (N18.out.trans hn19)
  clear hn19 RR VE
  have VA : Hid (∀ W v (l : List Ct) (d : Int) (x : Nat), RdG ctE W v l → vld 0 l = true → vl l d = x → Calls Try.prog 16 #[v, .int .i64 d] W fun e w' => e = .returned (.int .u64 x) ∧ Nx W w') := fun W v l d x h k e => by
    have := val_any W v l d h (by have := vld_len16 k; omega)
    rw [e] at this
    exact this
  by_cases hd : devB d = true ∧ vl a d ≠ 18446744073709551615
  · have HD := Lib.hid hd
    have PO := Lib.hid (bmp_ok A0.out K0.out hd.1 hd.2)
    clear hd
    go_wp2_with fail
    refine (bump_ok w19 _ a d (H0.out.nx N19.out) K0.out A0.out HD.out.1 HD.out.2).mono ?_
    rintro e w20 ⟨p, n20, rfl, rfl, hp, hn20⟩
    have N20 := Lib.hid (N19.out.trans hn20)
    have RP := Lib.hid hp.rd
    clear hn20 hp
    have BF : Hid (cp a (bmp a d) = 2) := by
      obtain ⟨d1, d2⟩ := devB_iff.1 HD.out.1
      refine (cp_2 A0.out PO.out.1).2 ⟨⟨d, by rw [bmp_self A0.out HD.out.1]; omega⟩, fun e => ?_⟩
      rw [bmp_vl A0.out d1 d2]; omega
    go_wp2_with fail
    refine (CO.out w20 _ _ _ _ 2 (H0.out.nx N20.out) RP.out A0.out PO.out.1 BF.out).mono ?_
    rintro e w21 ⟨rfl, hn21⟩
    have N21 := Lib.hid (N20.out.trans hn21)
    have RP21 := Lib.hid (RP.out.nx hn21)
    clear hn21 RP CO
    have hvx : vl (bmp a d) d = vl a d + 1 := bmp_self A0.out HD.out.1
    obtain ⟨x1, hx1⟩ : ∃ x, vl a d = x := ⟨_, rfl⟩
    have hx2 : x1 < 18446744073709551615 := by
      have := vl_small (d := d) K0.out.small (by omega)
      have := HD.out.2
      omega
    rw [hx1] at hvx
    have HVX := Lib.hid hvx
    have HX1 := Lib.hid hx1
    have hw : IntKind.u64.wrap ((x1 : Int) + 1) = ((x1 + 1 : Nat) : Int) := by rw [IntWalk.u64_in _ (by omega)]; omega
    clear hvx hx1 hx2
    obtain ⟨x2, hx2⟩ : ∃ x, x1 + 1 = x := ⟨_, rfl⟩
    rw [hx2] at hw HVX
    have zz : ((x2 : Int) == (x2 : Int)) = true := by simp
    clear hx2
    go_wp2_with fail
    refine (VA.out w21 _ _ d x2 RP21.out PO.out.1 HVX.out).mono ?_
    rintro e w22 ⟨rfl, hn22⟩
    have N22 := Lib.hid (N21.out.trans hn22)
    clear hn22 RP21
    go_wp2_with fail
    refine (VA.out w22 _ a d x1 (H0.out.nx N22.out) A0.out HX1.out).mono ?_
    rintro e w23 ⟨rfl, hn23⟩
    have N23 := Lib.hid (N22.out.trans hn23)
    clear hn23
    go_wp2
    go_ret
    exact ⟨rfl, N23.out⟩
  · have HD := Lib.hid hd
    clear hd
    go_wp2_with fail
    refine (bump_bad w19 _ a d (H0.out.nx N19.out) K0.out A0.out HD.out).mono ?_
    rintro e w20 ⟨p, n20, rfl, hp, rfl, hn20⟩
    have N20 := Lib.hid (N19.out.trans hn20)
    clear hn20
    rcases hp with rfl | rfl <;> (
      go_wp2
      go_ret
      exact ⟨rfl, N20.out⟩)
end Go.Proofs.Ytlmfjalkgapcgaa

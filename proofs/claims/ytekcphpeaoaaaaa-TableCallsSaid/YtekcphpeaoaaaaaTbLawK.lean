/- Package table: the walk of TableCalls. -/
import Derived.Test.YtekcphpeaoaaaaaTbCal
import Derived.Test.YtekcphpeaoaaaaaTbMade
import Derived.Test.YtekcphpeaoaaaaaAll1
namespace Go.Proofs.Ytekcphpeaoaaaaa
open Go.RowKit Go.Shelf
set_option linter.unusedVariables false

attribute [local go_sem] Oper.semAt_some

/-- Two tables, and the reference's, in boxes. -/
structure G5 (w : World) (B11 B13 : Nat) (u11 u13 : Option Addr) (s12 s14 : Value) (xs ys : List KV) (W : World) : Prop where
  n : Nx w W
  b11 : BlkIs W B11 24 #[.pointer u11]
  b12 : BlkIs W (B11 + 1) 36 #[s12]
  b13 : BlkIs W B13 24 #[.pointer u13]
  b14 : BlkIs W (B13 + 1) 36 #[s14]
  t11 : Tb W (.agg #[.pointer u11]) xs
  t12 : Rt W (.agg #[s12]) xs
  t13 : Tb W (.agg #[.pointer u13]) ys
  t14 : Rt W (.agg #[s14]) ys
theorem G5.nx {w : World} {B11 B13 : Nat} {u11 u13 : Option Addr} {s12 s14 : Value} {xs ys : List KV} {W W' : World} (h : G5 w B11 B13 u11 u13 s12 s14 xs ys W) (k : Nx W W') : G5 w B11 B13 u11 u13 s12 s14 xs ys W' :=
  ⟨h.n.trans k, h.b11.nx k, h.b12.nx k, h.b13.nx k, h.b14.nx k, h.t11.nx k, h.t12.nx k, h.t13.nx k, h.t14.nx k⟩
theorem Rt.len {w : World} {A : Option Addr} {n c : Nat} {xs : List KV} (h : Rt w (.agg #[.slice A n c]) xs) : n = xs.length := by
  obtain ⟨s, e, ⟨A', c', e2, _⟩, _⟩ := h
  simp only [Value.agg.injEq, Array.mk.injEq, List.cons.injEq, and_true] at e
  rw [← e] at e2
  simp only [Value.slice.injEq, List.length_map] at e2
  exact e2.2.1
theorem getV_form (o : Option Str) : ∃ va bi, getV o = .tuple #[.string (S va), .bool bi] := by
  cases o with
  | none => exact ⟨[], false, rfl⟩
  | some v => exact ⟨v, true, rfl⟩
theorem nextV_form (o : Option KV) : ∃ (pc : Pr) (bs : Bool), nextV o = .tuple #[.agg #[.string (S pc.k), .string (S pc.v), .bool pc.g], .bool bs] := by
  cases o with
  | none => exact ⟨⟨[], [], false⟩, false, rfl⟩
  | some e => exact ⟨prOf e, true, rfl⟩

set_option maxRecDepth 100000 in
set_option maxHeartbeats 8000000 in
theorem lawK_any (w : World) (A0 A1 : Option Addr) (n0 n1 c0 c1 : Nat) (l0 l1 : List Pr) (frm to : Str) (m : Int) (h0 : Rd w (.slice A0 n0 c0) l0) (h1 : Rd w (.slice A1 n1 c1) l1) (e0 : l0.length = n0) (e1 : l1.length = n1) (m0 : n0 ≤ 9223372036854775807) (m1 : n1 ≤ 9223372036854775807) (i0 : ∀ p ∈ l0, PrIn p) (i1 : ∀ p ∈ l1, PrIn p) (hc0 : n0 ≤ c0) (hc1 : c0 ≤ 9223372036854775807) (hk : frm.length ≤ 9223372036854775807) (hv : to.length ≤ 9223372036854775807) (hm1 : -9223372036854775808 ≤ m) (hm2 : m ≤ 9223372036854775807) :
    Calls Try.prog 4 #[.slice A0 n0 c0, .slice A1 n1 c1, .string (S frm), .string (S to), .int .i64 m] w fun e w' => e = .returned (.bool true) ∧ Nx w w' := by
  have LV := Lib.hid (lives_any w)
  have LP := Lib.hid (fun W hW => light_any W A0 n0 c0 l0 (h0.nx hW) e0 m0 i0 200 5000 (by decide) (by decide))
  have LQ := Lib.hid (fun W hW => light_any W A1 n1 c1 l1 (h1.nx hW) e1 m1 i1 200 5000 (by decide) (by decide))
  subst e0 e1
  have H0 := Lib.hid (h0.rdc hc0 hc1)
  have H1 := Lib.hid h1
  have HM2 : Hid (-9223372036854775808 ≤ m ∧ m ≤ 9223372036854775807) := ⟨hm1, hm2⟩
  have HKV : Hid (frm.length ≤ 9223372036854775807 ∧ to.length ≤ 9223372036854775807) := ⟨hk, hv⟩
  clear h0 h1 i0 i1 m0 m1 hk hv hc0 hc1 hm1 hm2
  go_enter Try.func4, Try.ntmps4
  go_wp2_with fail
  refine LV.out.mono ?_
  rintro e w1 ⟨rfl, hn1⟩
  have N1 := Lib.hid hn1
  have LP1 := Lib.hid (LP.out w1 hn1)
  clear LV LP hn1
  go_wp2_with fail
  refine LP1.out.mono ?_
  rintro e w2 ⟨B, rfl, hB, hn2⟩
  have N2 := Lib.hid (N1.out.trans hn2)
  clear LP1 hn2
  cases B with
  | false =>
    clear hB
    go_wp2
    go_ret
    exact ⟨rfl, N2.out⟩
  | true =>
    have HL := Lib.hid (hB rfl)
    clear hB
    have LQ2 := Lib.hid (LQ.out w2 N2.out)
    clear LQ
    go_wp2_with fail
    refine LQ2.out.mono ?_
    rintro e w3 ⟨B, rfl, hB, hn3⟩
    have N3 := Lib.hid (N2.out.trans hn3)
    clear LQ2 hn3
    cases B with
    | false =>
      clear hB
      go_wp2
      go_ret
      exact ⟨rfl, N3.out⟩
    | true =>
      have HM := Lib.hid (hB rfl)
      clear hB
      have hsz := S_size frm
      have hsv := S_size to
      by_cases hkl : frm.length ≤ 5000
      · have d1 : decide ((frm.length : Int) > 5000) = false := by simp; omega
        have d2 : decide (5000 < (frm.length : Int)) = false := by simp; omega
        have d3 : decide (5000 < frm.length) = false := by simp; omega
        by_cases hvl : to.length ≤ 5000
        · have d4 : decide ((to.length : Int) > 5000) = false := by simp; omega
          have d5 : decide (5000 < (to.length : Int)) = false := by simp; omega
          have d6 : decide (5000 < to.length) = false := by simp; omega
          have HKL : Hid (frm.length ≤ 100000) := by show _ ≤ _; omega
          have MD := Lib.hid (made_any w3 _ l0 (H0.out.rd.nx N3.out) (HL.out.short (by decide)) (by have := HL.out.1; omega))
          clear hkl hvl
          go_wp2_with fail
          refine MD.out.mono ?_
          rintro e w4 ⟨a, b, rfl, ha, hb, hn4⟩
          obtain ⟨u11, rfl⟩ := ha.agg
          obtain ⟨A12, n12, c12, rfl⟩ := hb.agg
          obtain ⟨xs, hxs⟩ : ∃ xs, acts [] l0 = xs := ⟨_, rfl⟩
          have hxl : xs.length ≤ 200 := by
            have h1 := acts_len l0 []
            have h2 := HL.out.1
            rw [hxs] at h1
            simp at h1
            omega
          rw [hxs] at ha hb
          obtain ⟨W5, hW5⟩ : ∃ W5, (w4.alloc (.cells #[.pointer u11] 24)).alloc (.cells #[.slice A12 n12 c12] 36) = W5 := ⟨_, rfl⟩
          have n5 : Nx w4 W5 := by rw [← hW5]; exact ((Nx.refl _).alloc _).alloc _
          have b11 : BlkIs W5 w4.heap.size 24 #[.pointer u11] := by rw [← hW5]; exact (box_blk w4 _ _).nx ((Nx.refl _).alloc _)
          have b12 : BlkIs W5 (w4.heap.size + 1) 36 #[.slice A12 n12 c12] := by
            rw [← hW5]
            have := box_blk (w4.alloc (.cells #[.pointer u11] 24)) (.slice A12 n12 c12) 36
            rwa [World.size_alloc] at this
          have N5 : Hid (Nx w W5) := (N3.out.trans hn4).trans n5
          have BT : Hid (BlkIs W5 w4.heap.size 24 #[.pointer u11] ∧ BlkIs W5 (w4.heap.size + 1) 36 #[.slice A12 n12 c12] ∧ Tb W5 (.agg #[.pointer u11]) xs ∧ Rt W5 (.agg #[.slice A12 n12 c12]) xs) := ⟨b11, b12, ha.nx n5, hb.nx n5⟩
          have MD2 := Lib.hid (made_any W5 _ l1 (H1.out.nx N5.out) (HM.out.short (by decide)) (by have := HM.out.1; omega))
          have HXL := Lib.hid hxl
          clear MD ha hb hxs hxl n5 b11 b12 hn4
          go_wp2_with fail
          refine MD2.out.mono ?_
          rintro e w6 ⟨a, b, rfl, ha, hb, hn6⟩
          obtain ⟨u13, rfl⟩ := ha.agg
          obtain ⟨A14, n14, c14, rfl⟩ := hb.agg
          obtain ⟨ys, hys⟩ : ∃ ys, acts [] l1 = ys := ⟨_, rfl⟩
          have hyl : ys.length ≤ 200 := by
            have h1 := acts_len l1 []
            have h2 := HM.out.1
            rw [hys] at h1
            simp at h1
            omega
          rw [hys] at ha hb
          obtain ⟨W7, hW7⟩ : ∃ W7, (w6.alloc (.cells #[.pointer u13] 24)).alloc (.cells #[.slice A14 n14 c14] 36) = W7 := ⟨_, rfl⟩
          have n7 : Nx w6 W7 := by rw [← hW7]; exact ((Nx.refl _).alloc _).alloc _
          have b13 : BlkIs W7 w6.heap.size 24 #[.pointer u13] := by rw [← hW7]; exact (box_blk w6 _ _).nx ((Nx.refl _).alloc _)
          have b14 : BlkIs W7 (w6.heap.size + 1) 36 #[.slice A14 n14 c14] := by
            rw [← hW7]
            have := box_blk (w6.alloc (.cells #[.pointer u13] 24)) (.slice A14 n14 c14) 36
            rwa [World.size_alloc] at this
          have n57 := hn6.trans n7
          have g7 : G5 w w4.heap.size w6.heap.size u11 u13 (.slice A12 n12 c12) (.slice A14 n14 c14) xs ys W7 := ⟨N5.out.trans n57, BT.out.1.nx n57, BT.out.2.1.nx n57, b13, b14, BT.out.2.2.1.nx n57, BT.out.2.2.2.nx n57, ha.nx n7, hb.nx n7⟩
          have k11 := g7.b11.at0 (Nx.refl W7)
          have GT := Lib.hid (tget_any W7 _ xs frm g7.t11)
          obtain ⟨va, bi, hgv⟩ := getV_form (look frm xs)
          have HGV := Lib.hid hgv
          rw [hgv] at GT
          have G7 := Lib.hid g7
          have HYL := Lib.hid hyl
          clear MD2 ha hb hys hyl n7 b13 b14 hn6 n57 g7 hgv BT N5 hW5
          go_wp2_with fail
          refine GT.out.mono ?_
          rintro e w8 ⟨rfl, hn8⟩
          have g8 := G7.out.nx hn8
          have k12 := g8.b12.at0 (Nx.refl w8)
          have RG := Lib.hid (rget_any w8 _ xs frm g8.t12 (by have := HXL.out; omega))
          rw [HGV.out] at RG
          have G8 := Lib.hid g8
          clear GT hn8 g8 k11 G7 HGV hW7
          go_wp2_with fail
          refine RG.out.mono ?_
          rintro e w9 ⟨rfl, hn9⟩
          have g9 := G8.out.nx hn9
          have k11 := g9.b11.at0 (Nx.refl w9)
          have NX := Lib.hid (tnext_any w9 _ xs frm g9.t11 (by have := HXL.out; omega))
          obtain ⟨pc, bs, hnv⟩ := nextV_form (next frm xs)
          have HNV := Lib.hid hnv
          rw [hnv] at NX
          have G9 := Lib.hid g9
          clear RG hn9 g9 k12 G8 hnv
          go_wp2_with fail
          refine NX.out.mono ?_
          rintro e w10 ⟨rfl, hn10⟩
          obtain ⟨W11, hW11⟩ : ∃ W11, w10.alloc (.cells #[.string (S pc.k), .string (S pc.v), .bool pc.g] 40) = W11 := ⟨_, rfl⟩
          have n11 : Nx w10 W11 := by rw [← hW11]; exact (Nx.refl _).alloc _
          have b19 : BlkIs W11 w10.heap.size 40 (prC pc).toArray := by rw [← hW11]; exact BlkIs.new _ _ _
          have g11 := G9.out.nx (hn10.trans n11)
          have k12 := g11.b12.at0 (Nx.refl W11)
          have RN := Lib.hid (rnext_any W11 _ xs frm g11.t12 (by have := HXL.out; omega))
          rw [HNV.out] at RN
          have G11 := Lib.hid g11
          have B19 := Lib.hid b19
          clear NX hn10 n11 b19 g11 k11 G9 HNV
          go_wp2_with fail
          refine RN.out.mono ?_
          rintro e w12 ⟨rfl, hn12⟩
          obtain ⟨W13, hW13⟩ : ∃ W13, w12.alloc (.cells #[.string (S pc.k), .string (S pc.v), .bool pc.g] 40) = W13 := ⟨_, rfl⟩
          have n13 : Nx w12 W13 := by rw [← hW13]; exact (Nx.refl _).alloc _
          have b21 : BlkIs W13 w12.heap.size 40 (prC pc).toArray := by rw [← hW13]; exact BlkIs.new _ _ _
          have g13 := G11.out.nx (hn12.trans n13)
          have k11 := g13.b11.at0 (Nx.refl W13)
          have CT := Lib.hid (tcut_any W13 _ xs frm g13.t11 (by have := HXL.out; omega))
          have G13 := Lib.hid g13
          have B20 : Hid (BlkIs W13 w10.heap.size 40 (prC pc).toArray ∧ BlkIs W13 w12.heap.size 40 (prC pc).toArray) := ⟨B19.out.nx (hn12.trans n13), b21⟩
          clear RN hn12 n13 b21 g13 k12 G11 B19 hW11
          go_wp2_with fail
          refine CT.out.mono ?_
          rintro e w14 ⟨a, b, rfl, ha, hb, hn14⟩
          obtain ⟨u23, rfl⟩ := ha.agg
          obtain ⟨u24, rfl⟩ := hb.agg
          obtain ⟨W15, hW15⟩ : ∃ W15, (w14.alloc (.cells #[.pointer u23] 24)).alloc (.cells #[.pointer u24] 24) = W15 := ⟨_, rfl⟩
          have n15 : Nx w14 W15 := by rw [← hW15]; exact ((Nx.refl _).alloc _).alloc _
          have b23 : BlkIs W15 w14.heap.size 24 #[.pointer u23] := by rw [← hW15]; exact (box_blk w14 _ _).nx ((Nx.refl _).alloc _)
          have b24 : BlkIs W15 (w14.heap.size + 1) 24 #[.pointer u24] := by
            rw [← hW15]
            have := box_blk (w14.alloc (.cells #[.pointer u23] 24)) (.pointer u24) 24
            rwa [World.size_alloc] at this
          have g15 := G13.out.nx (hn14.trans n15)
          have k12 := g15.b12.at0 (Nx.refl W15)
          have RC := Lib.hid (rcut_any W15 _ xs frm g15.t12 (by have := HXL.out; omega))
          have G15 := Lib.hid g15
          obtain ⟨ps, hps⟩ : ∃ ps, xs.take (place frm xs) = ps := ⟨_, rfl⟩
          obtain ⟨qs, hqs⟩ : ∃ qs, xs.drop (place frm xs) = qs := ⟨_, rfl⟩
          rw [hps] at ha RC
          rw [hqs] at hb RC
          have hsh := g15.t11.shorts
          have PQ : Hid (ps.length ≤ 200 ∧ qs.length ≤ 200 ∧ (∀ e ∈ xs, e.1.length ≤ 100000) ∧ (∀ e ∈ ps, e.1.length ≤ 100000) ∧ ∀ e ∈ qs, e.1.length ≤ 100000) := by
            refine ⟨by rw [← hps, List.length_take]; have := HXL.out; omega, by rw [← hqs, List.length_drop]; have := HXL.out; omega, fun e he => (hsh e he).1, fun e he => (hsh e (by rw [← hps] at he; exact List.mem_of_mem_take he)).1, fun e he => (hsh e (by rw [← hqs] at he; exact List.mem_of_mem_drop he)).1⟩
          have B24 : Hid (BlkIs W15 w10.heap.size 40 (prC pc).toArray ∧ BlkIs W15 w12.heap.size 40 (prC pc).toArray ∧ BlkIs W15 w14.heap.size 24 #[.pointer u23] ∧ BlkIs W15 (w14.heap.size + 1) 24 #[.pointer u24] ∧ Tb W15 (.agg #[.pointer u23]) ps ∧ Tb W15 (.agg #[.pointer u24]) qs) := ⟨B20.out.1.nx (hn14.trans n15), B20.out.2.nx (hn14.trans n15), b23, b24, ha.nx n15, hb.nx n15⟩
          clear CT ha hb hn14 n15 b23 b24 g15 k11 G13 B20 hps hqs hsh hW13
          go_wp2_with fail
          refine RC.out.mono ?_
          rintro e w16 ⟨a, b, rfl, ha, hb, hn16⟩
          obtain ⟨A25, n25, c25, rfl⟩ := ha.agg
          obtain ⟨A26, n26, c26, rfl⟩ := hb.agg
          obtain ⟨W17, hW17⟩ : ∃ W17, (w16.alloc (.cells #[.slice A25 n25 c25] 36)).alloc (.cells #[.slice A26 n26 c26] 36) = W17 := ⟨_, rfl⟩
          have n17 : Nx w16 W17 := by rw [← hW17]; exact ((Nx.refl _).alloc _).alloc _
          have b25 : BlkIs W17 w16.heap.size 36 #[.slice A25 n25 c25] := by rw [← hW17]; exact (box_blk w16 _ _).nx ((Nx.refl _).alloc _)
          have b26 : BlkIs W17 (w16.heap.size + 1) 36 #[.slice A26 n26 c26] := by
            rw [← hW17]
            have := box_blk (w16.alloc (.cells #[.slice A25 n25 c25] 36)) (.slice A26 n26 c26) 36
            rwa [World.size_alloc] at this
          have k1 := hn16.trans n17
          have g17 := G15.out.nx k1
          have N17 : Hid (Nx w W17) := g17.n
          have CM : Hid (∀ a0 : Act, a0.tmps.size = 189 → a0.eval (.tmp 11) = .pointer (some ⟨w4.heap.size, 0, none⟩) → a0.eval (.tmp 12) = .pointer (some ⟨w4.heap.size + 1, 0, none⟩) → a0.eval (.tmp 13) = .pointer (some ⟨w6.heap.size, 0, none⟩) → a0.eval (.tmp 14) = .pointer (some ⟨w6.heap.size + 1, 0, none⟩) → a0.eval (.tmp 19) = .pointer (some ⟨w10.heap.size, 0, none⟩) → a0.eval (.tmp 21) = .pointer (some ⟨w12.heap.size, 0, none⟩) → a0.eval (.tmp 23) = .pointer (some ⟨w14.heap.size, 0, none⟩) → a0.eval (.tmp 24) = .pointer (some ⟨w14.heap.size + 1, 0, none⟩) → a0.eval (.tmp 25) = .pointer (some ⟨w16.heap.size, 0, none⟩) → a0.eval (.tmp 26) = .pointer (some ⟨w16.heap.size + 1, 0, none⟩) → a0.eval (.tmp 15) = .string (S va) → a0.eval (.tmp 17) = .string (S va) → a0.eval (.tmp 16) = .bool bi → a0.eval (.tmp 18) = .bool bi → a0.eval (.tmp 20) = .bool bs → a0.eval (.tmp 22) = .bool bs → a0.eval (.tmp 2) = .string (S frm) → a0.eval (.tmp 3) = .string (S to) → a0.eval (.tmp 4) = .int .i64 m → a0.eval (.tmp 0) = .slice A0 l0.length c0 → CCa13 (rops Try.f4 13) a0 W17 w4.heap.size (w4.heap.size + 1) w6.heap.size (w6.heap.size + 1) w10.heap.size w12.heap.size w14.heap.size (w14.heap.size + 1) w16.heap.size (w16.heap.size + 1) u11 u13 u23 u24 (.slice A12 n12 c12) (.slice A14 n14 c14) (.slice A25 n25 c25) (.slice A26 n26 c26) A12 A0 n12 c12 l0.length c0 va frm to bi bs m pc xs ys ps qs l0) := fun a0 q0 q1 q2 q3 q4 q5 q6 q7 q8 q9 q10 q11 q12 q13 q14 q15 q16 q17 q18 q19 q20 =>
            { hops := rfl, hz := q0, z11 := q1, z12 := q2, z13 := q3, z14 := q4, z19 := q5, z21 := q6, z23 := q7, z24 := q8, z25 := q9, z26 := q10, z15 := q11, z17 := q12, z16 := q13, z18 := q14, z20 := q15, z22 := q16, z2 := q17, z3 := q18, z4 := q19, z0 := q20,
              b11 := g17.b11, t11 := g17.t11, b12 := g17.b12, t12 := g17.t12, b13 := g17.b13, t13 := g17.t13, b14 := g17.b14, t14 := g17.t14, b19 := B24.out.1.nx k1, b21 := B24.out.2.1.nx k1, b23 := B24.out.2.2.1.nx k1, b24 := B24.out.2.2.2.1.nx k1, t23 := B24.out.2.2.2.2.1.nx k1, t24 := B24.out.2.2.2.2.2.nx k1, b25 := b25, b26 := b26, t25 := ha.nx n17, t26 := hb.nx n17, s12e := rfl, n12e := g17.t12.len, m1 := HM2.out.1, m2 := HM2.out.2, rl := H0.out.nx N17.out, ln := by have := HL.out.1; omega, ls := HL.out.short (by decide), fl := HKL.out, xsn := by have := HXL.out; omega, ysn := by have := HYL.out; omega, psn := by have := PQ.out; omega, qsn := by have := PQ.out; omega, xk := PQ.out.2.2.1, pk := PQ.out.2.2.2.1, qk := PQ.out.2.2.2.2 }
          clear RC ha hb hn16 n17 b25 b26 k1 g17 k12 G15 B24 hW15
          go_wp2_with fail
          refine rgCa13L (CM.out _ rfl rfl rfl rfl rfl rfl rfl rfl rfl rfl rfl rfl rfl rfl rfl rfl rfl rfl rfl rfl rfl) ?_
          intro x93 x94 x95 x96 x97 x98 x99 x100 x101 x102 x103 x104 x105 x106 x107 x108 x109 x110 x111 x112 x113 x114 x115 x116 x117 x118 x119 x120 x121 x122 x123 x124 x125 x126 x127 x128 x129 x130 x131 x132 x133 x134 x135 x136 x137 x138 x139 x140 x141 x142 x143 x144 x145 x146 x147 x148 x149 x150 x151 x152 x153 x154 x155 x156 x157 x158 x159 x160 x161 x162 x163 x164 x165 x166 x167 x168 x169 x170 x171 x172 x173 x174 x175 x176 x177 x178 x179 x180 x181 x182 x183 x184 x185 x186 x187 x188 W18 n18
          have N18 : Hid (Nx w W18) := N17.out.trans n18
          clear CM n18
          go_wp2
          go_ret
          exact ⟨rfl, N18.out⟩
        · have d4 : decide ((to.length : Int) > 5000) = true := by simp; omega
          have d5 : decide (5000 < (to.length : Int)) = true := by simp; omega
          have d6 : decide (5000 < to.length) = true := by simp; omega
          go_wp2
          go_ret
          exact ⟨rfl, N3.out⟩
      · have d1 : decide ((frm.length : Int) > 5000) = true := by simp; omega
        have d2 : decide (5000 < (frm.length : Int)) = true := by simp; omega
        have d3 : decide (5000 < frm.length) = true := by simp; omega
        go_wp2
        go_ret
        exact ⟨rfl, N3.out⟩
end Go.Proofs.Ytekcphpeaoaaaaa

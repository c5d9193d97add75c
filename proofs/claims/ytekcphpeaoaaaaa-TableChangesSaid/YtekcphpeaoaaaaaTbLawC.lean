/- Package table: the walk of TableChanges. -/
import Derived.Test.YtekcphpeaoaaaaaTbCha
import Derived.Test.YtekcphpeaoaaaaaTbChb
import Derived.Test.YtekcphpeaoaaaaaTbChc
namespace Go.Proofs.Ytekcphpeaoaaaaa
open Go.RowKit Go.Shelf
set_option linter.unusedVariables false

attribute [local go_sem] Oper.semAt_some

/-- The two tables stand in boxes. -/
structure G1 (w : World) (B7 B8 : Nat) (u7 u8 : Option Addr) (xs ys : List KV) (W : World) : Prop where
  n : Nx w W
  b7 : BlkIs W B7 24 #[.pointer u7]
  b8 : BlkIs W B8 24 #[.pointer u8]
  t7 : Tb W (.agg #[.pointer u7]) xs
  t8 : Tb W (.agg #[.pointer u8]) ys
theorem G1.nx {w : World} {B7 B8 : Nat} {u7 u8 : Option Addr} {xs ys : List KV} {W W' : World} (h : G1 w B7 B8 u7 u8 xs ys W) (k : Nx W W') : G1 w B7 B8 u7 u8 xs ys W' :=
  ⟨h.n.trans k, h.b7.nx k, h.b8.nx k, h.t7.nx k, h.t8.nx k⟩

theorem chg_short {xs ys : List KV} (hx : Srt xs) (hy : Srt ys) (sx : Shorts xs) (sy : Shorts ys) : ShortP (chg xs ys) := fun p hp => by
  rcases (mem_chg xs ys hx hy p).1 hp with ⟨_, h, _⟩ | ⟨_, hv, ⟨v, h⟩, _⟩
  · exact sy _ h
  · exact ⟨(sx _ h).1, by rw [hv]; simp⟩

set_option maxRecDepth 100000 in
set_option maxHeartbeats 4000000 in
theorem lawC_any (w : World) (A0 A1 : Option Addr) (n0 n1 c0 c1 : Nat) (l0 l1 : List Pr) (key : Str) (h0 : Rd w (.slice A0 n0 c0) l0) (h1 : Rd w (.slice A1 n1 c1) l1) (e0 : l0.length = n0) (e1 : l1.length = n1) (m0 : n0 ≤ 9223372036854775807) (m1 : n1 ≤ 9223372036854775807) (i0 : ∀ p ∈ l0, PrIn p) (i1 : ∀ p ∈ l1, PrIn p) (hk : key.length ≤ 9223372036854775807) :
    Calls Try.prog 7 #[.slice A0 n0 c0, .slice A1 n1 c1, .string (S key)] w fun e w' => e = .returned (.bool true) ∧ Nx w w' := by
  have LV := Lib.hid (lives_any w)
  have LP := Lib.hid (fun W hW => light_any W A0 n0 c0 l0 (h0.nx hW) e0 m0 i0 400 300 (by decide) (by decide))
  have LQ := Lib.hid (fun W hW => light_any W A1 n1 c1 l1 (h1.nx hW) e1 m1 i1 400 300 (by decide) (by decide))
  have H0 := Lib.hid h0
  have H1 := Lib.hid h1
  have HK := Lib.hid hk
  subst e0 e1
  clear h0 h1 i0 i1 m0 m1 hk
  go_enter Try.func7, Try.ntmps7
  go_wp2_with fail
  refine LV.out.mono ?_
  rintro e w1 ⟨rfl, hn1⟩
  have N1 := Lib.hid hn1
  have LP1 := Lib.hid (LP.out w1 hn1)
  clear LV LP hn1
  go_wp2_with fail
  refine LP1.out.mono ?_
  rintro e w2 ⟨B, rfl, hB, hn2⟩
  have N2 := Lib.hid (N1.out.trans hn2)
  clear LP1 hn2
  cases B with
  | false =>
    clear hB
    go_wp2
    go_ret
    exact ⟨rfl, N2.out⟩
  | true =>
    have HL := Lib.hid (hB rfl)
    clear hB
    have LQ2 := Lib.hid (LQ.out w2 N2.out)
    clear LQ
    go_wp2_with fail
    refine LQ2.out.mono ?_
    rintro e w3 ⟨B, rfl, hB, hn3⟩
    have N3 := Lib.hid (N2.out.trans hn3)
    clear LQ2 hn3
    cases B with
    | false =>
      clear hB
      go_wp2
      go_ret
      exact ⟨rfl, N3.out⟩
    | true =>
      have HM := Lib.hid (hB rfl)
      clear hB
      have hsz := S_size key
      by_cases hkl : key.length ≤ 300
      · have d1 : decide ((key.length : Int) > 300) = false := by simp; omega
        have d2 : decide (300 < (key.length : Int)) = false := by simp; omega
        have d3 : decide (300 < key.length) = false := by simp; omega
        obtain ⟨W5, hW5⟩ : ∃ W5, (w3.alloc (.cells #[.pointer none] 24)).alloc (.cells #[.pointer none] 24) = W5 := ⟨_, rfl⟩
        have n5 : Nx w3 W5 := by rw [← hW5]; exact ((Nx.refl _).alloc _).alloc _
        have b7 : BlkIs W5 w3.heap.size 24 #[.pointer none] := by rw [← hW5]; exact (box_blk w3 _ _).nx ((Nx.refl _).alloc _)
        have b8 : BlkIs W5 (w3.heap.size + 1) 24 #[.pointer none] := by
          rw [← hW5]
          have := box_blk (w3.alloc (.cells #[.pointer none] 24)) (.pointer none) 24
          rwa [World.size_alloc] at this
        have CM : Hid (∀ a0 : Act, a0.tmps.size = 151 → a0.eval (.tmp 7) = .pointer (some ⟨w3.heap.size, 0, none⟩) → a0.eval (.tmp 8) = .pointer (some ⟨w3.heap.size + 1, 0, none⟩) → a0.eval (.tmp 0) = .slice A0 l0.length c0 → a0.eval (.tmp 1) = .slice A1 l1.length c1 → CCb (rops Try.f7 6) a0 W5 w3.heap.size (w3.heap.size + 1) (.slice A0 l0.length c0) (.slice A1 l1.length c1) l0 l1) := fun a0 q1 q2 q3 q4 q5 =>
          ⟨rfl, q1, q2, q3, q4, q5, b7, b8, by omega, H0.out.nx (N3.out.trans n5), H1.out.nx (N3.out.trans n5), HL.out.short (by decide), HM.out.short (by decide), by have := HL.out.1; omega, by have := HM.out.1; omega⟩
        have N5 := Lib.hid (N3.out.trans n5)
        have N35 := Lib.hid n5
        clear n5 b7 b8 hkl
        go_wp2_with fail
        refine rgCbL (CM.out _ rfl rfl rfl rfl rfl) ?_
        rintro x33 x34 x35 x36 x37 x38 W6 g1 ⟨u7, b7, t7⟩ ⟨u8, b8, t8⟩
        obtain ⟨v7, e7⟩ := t7.agg
        obtain rfl : u7 = .pointer v7 := by simpa using e7
        obtain ⟨v8, e8⟩ := t8.agg
        obtain rfl : u8 = .pointer v8 := by simpa using e8
        clear e7 e8
        obtain ⟨xs, hxs⟩ : ∃ xs, acts [] l0 = xs := ⟨_, rfl⟩
        obtain ⟨ys, hys⟩ : ∃ ys, acts [] l1 = ys := ⟨_, rfl⟩
        have hxl : xs.length ≤ 400 := by
          have h1 := acts_len l0 []
          have h2 := HL.out.1
          rw [hxs] at h1
          simp at h1
          omega
        have hyl : ys.length ≤ 400 := by
          have h1 := acts_len l1 []
          have h2 := HM.out.1
          rw [hys] at h1
          simp at h1
          omega
        rw [hxs] at t7
        rw [hys] at t8
        have n6 : Nx w W6 := Below.trans N5.out (g1.below (by have := N5.out.size; omega) fun j hj => by have := N3.out.size; omega)
        have G := Lib.hid (show G1 w w3.heap.size (w3.heap.size + 1) v7 v8 xs ys W6 from ⟨n6, b7, b8, t7, t8⟩)
        have d7 := b7.at0 (Nx.refl W6)
        have d8 := b8.at0 (Nx.refl W6)
        have CH := Lib.hid (tchanges_any W6 _ _ xs ys t7 t8 (by omega) (by omega))
        have HXL := Lib.hid hxl
        have HYL := Lib.hid hyl
        clear CM hxs hys hxl hyl n6 g1 b7 b8 t7 t8 hW5 N35
        go_wp2_with fail
        refine CH.out.mono ?_
        rintro e w7 ⟨r, rfl, hrow, hn7⟩
        have G7 := Lib.hid (G.out.nx hn7)
        obtain ⟨L, hL⟩ : ∃ L, chg xs ys = L := ⟨_, rfl⟩
        rw [hL] at hrow
        have hLl : L.length ≤ 800 := by have := chg_len xs ys; have := HXL.out; have := HYL.out; rw [← hL]; omega
        have hLs : L.Pairwise (fun a b => lt a.k b.k = true) := by rw [← hL]; exact chg_srt xs ys G.out.t7.srt G.out.t8.srt
        have HL2 := Lib.hid hL
        obtain ⟨A2, c2, rfl⟩ := own_slice hrow
        have RR := Lib.hid hrow.rd
        have HLS := Lib.hid hLs
        have HLL := Lib.hid hLl
        clear CH hn7 hrow hL hLl hLs d7 d8
        go_wp2
        go_loopg [10] L.length (fun n p10 wr => ∃ (i : Nat), p10 = .int .i64 (i : Int) ∧ Hid (1 ≤ i ∧ i + n = L.length + 1 ∧ ∃ q, wr = w7.drewN q))
        case atStart => exact ⟨1, rfl, Nat.le_refl _, by omega, 0, rfl⟩
        case round =>
          obtain ⟨i, rfl, hh⟩ := hrel
          obtain ⟨hi1, hi2, q, hwr⟩ := hh.out
          have hnx : Nx w7 wr := by rw [hwr]; exact (Nx.refl w7).drewN q
          by_cases hlt : i < L.length
          · obtain ⟨j, rfl⟩ : ∃ j, i = j + 1 := ⟨i - 1, by omega⟩
            rcases RR.out.nx hnx with ⟨_, _, e, e0⟩ | ⟨ba, oa, c3, ea, hca⟩
            · rw [e0] at hlt; cases hlt
            · simp only [Value.slice.injEq] at ea
              obtain ⟨rfl, -, rfl⟩ := ea
              have x0 := (Rd.cells hca (j + 1) hlt).1
              have z0 := (Rd.cells hca j (by omega)).1
              have hlj : lt L[j].k L[j + 1].k = true := List.pairwise_iff_getElem.1 HLS.out j (j + 1) (by omega) hlt (by omega)
              have d3 : Op.bytesLess (S L[j].k).toList (S L[j + 1].k).toList = true := by rw [S_lt]; exact hlj
              generalize L[j].k = ka at *
              generalize L[j + 1].k = kb at *
              obtain ⟨i, hi⟩ : ∃ i, j + 1 = i := ⟨_, rfl⟩
              rw [hi] at hlt hi1 hi2 x0 ⊢
              have hw : IntKind.i64.wrap ((i : Int) + 1) = (i : Int) + 1 := IntWalk.i64_in _ (by have := HLL.out; omega)
              have hw2 : IntKind.i64.wrap ((i : Int) - 1) = (j : Int) := by rw [IntWalk.i64_in _ (by have := HLL.out; omega)]; omega
              have e2 : decide ((i : Int) < (L.length : Int)) = true := by simp; omega
              have e3 : (i : Int) < (L.length : Int) := by omega
              have e4 : (0 : Int) ≤ (i : Int) := by omega
              have e5 : (j : Int) < (L.length : Int) := by omega
              have e6 : (0 : Int) ≤ (j : Int) := by omega
              have NXT : Hid (gk - 1 < gk ∧ 1 ≤ i + 1 ∧ i + 1 + (gk - 1) = L.length + 1 ∧ ∀ n, ∃ q, wr.drewN n = w7.drewN q) := ⟨by omega, by omega, by omega, fun n => ⟨q + n, by rw [hwr]; simp [World.drewN, Nat.add_assoc]⟩⟩
              clear hca hlj hh hi1 hi2 hwr hnx hlt hi
              go_wp2_with fail
              go_quiet (fail)
              go_wp2
              go_roundg (gk - 1)
              case measure => exact NXT.out.1
              case rel => exact ⟨i + 1, by push_cast; rfl, NXT.out.2.1, NXT.out.2.2.1, NXT.out.2.2.2 _⟩
          · have e2 : decide ((i : Int) < (L.length : Int)) = false := by simp; omega
            have e3 : decide (i < L.length) = false := by simp; omega
            have N7 : Hid (Nx w7 wr) := hnx
            clear hh hi1 hi2 hwr hnx hlt
            have g9 := G7.out.nx N7.out
            have ac := acts_chg g9.t7.srt g9.t8.srt
            have DN := Lib.hid (done_any wr _ _ xs L g9.t7 (RR.out.nx N7.out) (by rw [← HL2.out]; exact chg_short g9.t7.srt g9.t8.srt g9.t7.shorts g9.t8.shorts) (by have := HXL.out; have := HLL.out; omega))
            rw [HL2.out] at ac
            rw [ac] at DN
            have d7 := g9.b7.at0 (Nx.refl wr)
            have G9 := Lib.hid g9
            clear g9 ac
            go_wp2_with fail
            refine DN.out.mono ?_
            rintro e w10 ⟨T11, rfl, ht, hn10⟩
            obtain ⟨v11, rfl⟩ := ht.agg
            obtain ⟨W11, hW11⟩ : ∃ W11, w10.alloc (.cells #[.pointer v11] 24) = W11 := ⟨_, rfl⟩
            have n11 : Nx w10 W11 := by rw [← hW11]; exact (Nx.refl _).alloc _
            have b11 : BlkIs W11 w10.heap.size 24 #[.pointer v11] := by rw [← hW11]; exact BlkIs.new _ _ _
            have t11 := ht.nx n11
            have g11 := G9.out.nx (hn10.trans n11)
            have G11 := Lib.hid g11
            have CM : Hid (∀ a0 : Act, a0.tmps.size = 151 → a0.eval (.tmp 7) = .pointer (some ⟨w3.heap.size, 0, none⟩) → a0.eval (.tmp 8) = .pointer (some ⟨w3.heap.size + 1, 0, none⟩) → a0.eval (.tmp 11) = .pointer (some ⟨w10.heap.size, 0, none⟩) → CCa (rops Try.f7 14) a0 W11 w3.heap.size (w3.heap.size + 1) w10.heap.size v7 v8 v11 xs ys) := fun a0 q1 q2 q3 q4 =>
              ⟨rfl, q1, q2, q3, q4, g11.b7, g11.b8, b11, g11.t7, g11.t8, t11, by have := HXL.out; omega, by have := HYL.out; omega⟩
            clear DN ht hn10 n11 b11 t11 g11 d7 e2 e3
            go_wp2_with fail
            refine rgCaL (CM.out _ rfl rfl rfl rfl) ?_
            intro x63 x64 x65 x66 x67 x68 x69 x70 x71 x72 x73 x74 x75 x76 x77 x78 x79 x80 x81 W12 n12
            have g12 := G11.out.nx n12
            have G12 := Lib.hid g12
            have d7 := g12.b7.at0 (Nx.refl W12)
            have CT := Lib.hid (tcut_any W12 _ xs key g12.t7 (by have := HXL.out; omega))
            clear CM n12 g12 G11 G9 hW11
            go_wp2_with fail
            refine CT.out.mono ?_
            rintro e w13 ⟨a, b, rfl, ha, hb, hn13⟩
            obtain ⟨va, rfl⟩ := ha.agg
            obtain ⟨vb, rfl⟩ := hb.agg
            have G13 := Lib.hid (G12.out.nx hn13)
            clear CT G12 hn13
            obtain ⟨W14, hW14⟩ : ∃ W14, (w13.alloc (.cells #[.pointer va] 24)).alloc (.cells #[.pointer vb] 24) = W14 := ⟨_, rfl⟩
            have n14 : Nx w13 W14 := by rw [← hW14]; exact ((Nx.refl _).alloc _).alloc _
            have b12 : BlkIs W14 w13.heap.size 24 #[.pointer va] := by rw [← hW14]; exact (box_blk w13 _ _).nx ((Nx.refl _).alloc _)
            have b13 : BlkIs W14 (w13.heap.size + 1) 24 #[.pointer vb] := by
              rw [← hW14]
              have := box_blk (w13.alloc (.cells #[.pointer va] 24)) (.pointer vb) 24
              rwa [World.size_alloc] at this
            obtain ⟨ps, hps⟩ : ∃ ps, xs.take (place key xs) = ps := ⟨_, rfl⟩
            obtain ⟨qs, hqs⟩ : ∃ qs, xs.drop (place key xs) = qs := ⟨_, rfl⟩
            rw [hps] at ha
            rw [hqs] at hb
            have PQ : Hid (ps.length = place key xs ∧ ps.length + qs.length = xs.length ∧ ps ++ qs = xs ∧ (∀ x ∈ ps, lt x.1 key = true) ∧ ∀ x ∈ qs, lt x.1 key = false) := by
              have h1 := place_le key xs
              refine ⟨by rw [← hps, List.length_take]; omega, by rw [← hps, ← hqs, List.length_take, List.length_drop]; omega, by rw [← hps, ← hqs]; exact List.take_append_drop _ _, by rw [← hps]; exact place_below key xs, by rw [← hqs]; exact place_above G13.out.t7.srt⟩
            have CM : Hid (∀ a0 : Act, a0.tmps.size = 151 → a0.eval (.tmp 12) = .pointer (some ⟨w13.heap.size, 0, none⟩) → a0.eval (.tmp 13) = .pointer (some ⟨w13.heap.size + 1, 0, none⟩) → CCc (rops Try.f7 17) a0 W14 w13.heap.size (w13.heap.size + 1) va vb ps qs) := fun a0 q1 q2 q3 =>
              { hops := rfl, hz := q1, z12 := q2, z13 := q3, b12 := b12, b13 := b13, t12 := ha.nx n14, t13 := hb.nx n14, psn := by have := PQ.out.2.1; have := HXL.out; omega, qsn := by have := PQ.out.2.1; have := HXL.out; omega }
            have X14 : Hid (G1 w w3.heap.size (w3.heap.size + 1) v7 v8 xs ys W14 ∧ BlkIs W14 w13.heap.size 24 #[.pointer va] ∧ BlkIs W14 (w13.heap.size + 1) 24 #[.pointer vb] ∧ Tb W14 (.agg #[.pointer va]) ps ∧ Tb W14 (.agg #[.pointer vb]) qs) := ⟨G13.out.nx n14, b12, b13, ha.nx n14, hb.nx n14⟩
            clear n14 b12 b13 ha hb hps hqs d7 G13
            go_wp2_with fail
            refine rgCcL (CM.out _ rfl rfl rfl) ?_
            intro x89 x90 x91 x92 x93 x94 x95 x96 x14 x15 W15 r14 r15 n15
            have X15 : Hid (G1 w w3.heap.size (w3.heap.size + 1) v7 v8 xs ys W15 ∧ BlkIs W15 w13.heap.size 24 #[.pointer va] ∧ BlkIs W15 (w13.heap.size + 1) 24 #[.pointer vb] ∧ Tb W15 (.agg #[.pointer va]) ps ∧ Tb W15 (.agg #[.pointer vb]) qs) :=
              ⟨X14.out.1.nx n15, X14.out.2.1.nx n15, X14.out.2.2.1.nx n15, X14.out.2.2.2.1.nx n15, X14.out.2.2.2.2.nx n15⟩
            obtain ⟨A14, c14, e14⟩ := r14.rd.len
            obtain ⟨A15, c15, e15⟩ := r15.rd.len
            rw [List.length_map] at e14 e15
            subst e14 e15
            have R14 := Lib.hid r14
            have R15 := Lib.hid r15
            have HPL : Hid (ps.length ≤ 400 ∧ qs.length ≤ 400) := ⟨by have := PQ.out.2.1; have := HXL.out; omega, by have := PQ.out.2.1; have := HXL.out; omega⟩
            clear CM n15 r14 r15 X14 hW14 RR HLS HLL HL2 N7 G7 G
            go_wp2
            go_loopg [16] ps.length (fun n p16 wr => ∃ (i : Nat), p16 = .int .i64 (i : Int) ∧ W15 = wr ∧ Hid (i + n = ps.length))
            case atStart => exact ⟨0, rfl, rfl, by show _ = _; omega⟩
            case round =>
              obtain ⟨i, rfl, rfl, hh⟩ := hrel
              have hi := hh.out
              by_cases hlt : i < ps.length
              · rcases R14.out.rd with ⟨_, _, e, e0⟩ | ⟨ba, oa, c3, ea, hca⟩
                · rw [List.map_eq_nil_iff] at e0; rw [e0] at hlt; cases hlt
                · simp only [Value.slice.injEq] at ea
                  obtain ⟨rfl, -, rfl⟩ := ea
                  have x0 := (Rd.cells hca i (by rw [List.length_map]; exact hlt)).1
                  rw [List.getElem_map] at x0
                  have hlk := PQ.out.2.2.2.1 _ (List.getElem_mem hlt)
                  generalize ps[i] = ev at *
                  replace x0 : W15.cell? ⟨ba, oa + i * 3, none⟩ = some (.string (S ev.1)) := x0
                  have d4 : Op.bytesLess (S ev.1).toList (S key).toList = true := by rw [S_lt]; exact hlk
                  have hw : IntKind.i64.wrap ((i : Int) + 1) = (i : Int) + 1 := IntWalk.i64_in _ (by have := HPL.out; omega)
                  have e2 : decide ((i : Int) < (ps.length : Int)) = true := by simp; omega
                  have e3 : (i : Int) < (ps.length : Int) := by omega
                  have e4 : (0 : Int) ≤ (i : Int) := by omega
                  have NXT : Hid (gk - 1 < gk ∧ i + 1 + (gk - 1) = ps.length) := ⟨by omega, by omega⟩
                  clear hca hlk hh hi hlt
                  go_wp2
                  go_roundg (gk - 1)
                  case measure => exact NXT.out.1
                  case rel => exact ⟨i + 1, by push_cast; rfl, rfl, NXT.out.2⟩
              · have e2 : decide ((i : Int) < (ps.length : Int)) = false := by simp; omega
                have e3 : decide (i < ps.length) = false := by simp; omega
                clear hh hi hlt
                go_wp2
                go_loopg [17] qs.length (fun n p17 wr => ∃ (i : Nat), p17 = .int .i64 (i : Int) ∧ W15 = wr ∧ Hid (i + n = qs.length))
                case atStart => exact ⟨0, rfl, rfl, by show _ = _; omega⟩
                case round =>
                  obtain ⟨j, rfl, rfl, hh⟩ := hrel
                  have hi := hh.out
                  by_cases hlt : j < qs.length
                  · rcases R15.out.rd with ⟨_, _, e, e0⟩ | ⟨ba, oa, c3, ea, hca⟩
                    · rw [List.map_eq_nil_iff] at e0; rw [e0] at hlt; cases hlt
                    · simp only [Value.slice.injEq] at ea
                      obtain ⟨rfl, -, rfl⟩ := ea
                      have x0 := (Rd.cells hca j (by rw [List.length_map]; exact hlt)).1
                      rw [List.getElem_map] at x0
                      have hlk := PQ.out.2.2.2.2 _ (List.getElem_mem hlt)
                      generalize qs[j] = ev at *
                      replace x0 : W15.cell? ⟨ba, oa + j * 3, none⟩ = some (.string (S ev.1)) := x0
                      have d4 : Op.bytesLess (S ev.1).toList (S key).toList = false := by rw [S_lt]; exact hlk
                      have hw : IntKind.i64.wrap ((j : Int) + 1) = (j : Int) + 1 := IntWalk.i64_in _ (by have := HPL.out; omega)
                      have e2 : decide ((j : Int) < (qs.length : Int)) = true := by simp; omega
                      have e3 : (j : Int) < (qs.length : Int) := by omega
                      have e4 : (0 : Int) ≤ (j : Int) := by omega
                      have NXT : Hid (gk - 1 < gk ∧ j + 1 + (gk - 1) = qs.length) := ⟨by omega, by omega⟩
                      clear hca hlk hh hi hlt
                      go_wp2
                      go_roundg (gk - 1)
                      case measure => exact NXT.out.1
                      case rel => exact ⟨j + 1, by push_cast; rfl, rfl, NXT.out.2⟩
                  · have e2 : decide ((j : Int) < (qs.length : Int)) = false := by simp; omega
                    have e3 : decide (j < qs.length) = false := by simp; omega
                    have CM : Hid (∀ a0 : Act, a0.tmps.size = 151 → a0.eval (.tmp 7) = .pointer (some ⟨w3.heap.size, 0, none⟩) → a0.eval (.tmp 12) = .pointer (some ⟨w13.heap.size, 0, none⟩) → a0.eval (.tmp 13) = .pointer (some ⟨w13.heap.size + 1, 0, none⟩) → a0.eval (.tmp 2) = .string (S key) → a0.eval (.tmp 14) = .slice A14 ps.length c14 → a0.eval (.tmp 15) = .slice A15 qs.length c15 → CCd (rops Try.f7 28) a0 W15 w3.heap.size w13.heap.size (w13.heap.size + 1) v7 va vb key (.slice A14 ps.length c14) (.slice A15 qs.length c15) xs ps qs) := fun a0 q1 q2 q3 q4 q5 q6 q7 =>
                      { hops := rfl, hz := q1, z7 := q2, z12 := q3, z13 := q4, z2 := q5, z14 := q6, z15 := q7, b7 := X15.out.1.b7, t7 := X15.out.1.t7, xsn := by have := HXL.out; omega, b12 := X15.out.2.1, b13 := X15.out.2.2.1, t12 := X15.out.2.2.2.1, t13 := X15.out.2.2.2.2, psn := by have := HPL.out; omega, qsn := by have := HPL.out; omega, hp := PQ.out.1, hs := PQ.out.2.1, hc := PQ.out.2.2.1, r14 := R14.out, r15 := R15.out }
                    have N15 : Hid (Nx w W15) := X15.out.1.n
                    clear hh hi hlt
                    go_wp2_with fail
                    refine rgCdL (CM.out _ rfl rfl rfl rfl rfl rfl rfl) ?_
                    intro x123 x124 x125 x126 x127 x128 x129 x130 x131 x132 x133 x134 x135 x136 x137 x138 x139 x140 x141 x142 x143 x144 x145 x146 x147 x148 x149 x150 W16 n16
                    have N16 : Hid (Nx w W16) := N15.out.trans n16
                    clear CM n16
                    go_wp2
                    go_ret
                    exact ⟨rfl, N16.out⟩
      · have d1 : decide ((key.length : Int) > 300) = true := by simp; omega
        have d2 : decide (300 < (key.length : Int)) = true := by simp; omega
        have d3 : decide (300 < key.length) = true := by simp; omega
        go_wp2
        go_ret
        exact ⟨rfl, N3.out⟩
end Go.Proofs.Ytekcphpeaoaaaaa

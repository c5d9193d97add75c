/- Package table: the walk of TableStays. Made by wip/tools/gen_laws.py. -/
import Derived.Test.YtekcphpeaoaaaaaTbSta
import Derived.Test.YtekcphpeaoaaaaaTbStb
import Derived.Test.YtekcphpeaoaaaaaTbMade
namespace Go.Proofs.Ytekcphpeaoaaaaa
open Go.RowKit Go.Shelf
set_option linter.unusedVariables false

attribute [local go_sem] Oper.semAt_some

/-- The table stands in a box, and its nodes in a slice. -/
structure G3 (w : World) (B11 : Nat) (u11 : Option Addr) (xs : List KV) (v13 : Value) (W : World) : Prop where
  n : Nx w W
  b11 : BlkIs W B11 24 #[.pointer u11]
  t11 : Tb W (.agg #[.pointer u11]) xs
  r13 : Rd W v13 ((nodes xs).map prOf)
theorem G3.nx {w : World} {B11 : Nat} {u11 : Option Addr} {xs : List KV} {v13 : Value} {W W' : World} (h : G3 w B11 u11 xs v13 W) (k : Nx W W') : G3 w B11 u11 xs v13 W' :=
  ⟨h.n.trans k, h.b11.nx k, h.t11.nx k, h.r13.nx k⟩
/-- .. and the other table in another one, the changes in another slice. -/
structure G4 (w : World) (B11 : Nat) (u11 : Option Addr) (xs : List KV) (v13 : Value) (B17 : Nat) (u17 : Option Addr) (ys : List KV) (v19 : Value) (W : World) : Prop where
  g : G3 w B11 u11 xs v13 W
  b17 : BlkIs W B17 24 #[.pointer u17]
  t17 : Tb W (.agg #[.pointer u17]) ys
  r19 : Rd W v19 (chg xs ys)
theorem G4.nx {w : World} {B11 : Nat} {u11 : Option Addr} {xs : List KV} {v13 : Value} {B17 : Nat} {u17 : Option Addr} {ys : List KV} {v19 : Value} {W W' : World} (h : G4 w B11 u11 xs v13 B17 u17 ys v19 W) (k : Nx W W') : G4 w B11 u11 xs v13 B17 u17 ys v19 W' :=
  ⟨h.g.nx k, h.b17.nx k, h.t17.nx k, h.r19.nx k⟩
/-- What is left to be put, in some order. -/
def Lf (W6 : World) (A14 : Option Addr) (xs : List KV) (wr : World) : Prop := Nx W6 wr ∧ ∃ L : List KV, L.Perm xs ∧ ((A14 = none ∧ L = []) ∨ ∃ g, A14 = some ⟨g, 0, none⟩ ∧ W6.heap.size ≤ g ∧ Arr wr g (L.map prOf))
theorem look_put {key val : Str} {xs : List KV} (hs : Srt xs) : look key (ins key val xs) = some val := (look_some (ins_srt hs)).2 ((ins_mem hs _).2 (.inl rfl))
theorem chg_short {xs ys : List KV} (hx : Srt xs) (hy : Srt ys) (sx : Shorts xs) (sy : Shorts ys) : ShortP (chg xs ys) := fun p hp => by
  rcases (mem_chg xs ys hx hy p).1 hp with ⟨_, h, _⟩ | ⟨_, hv, ⟨v, h⟩, _⟩
  · exact sy _ h
  · exact ⟨(sx _ h).1, by rw [hv]; simp⟩

set_option maxRecDepth 100000 in
set_option maxHeartbeats 16000000 in
theorem lawS_any (w : World) (A0 A1 A2 : Option Addr) (n0 n1 n2 c0 c1 c2 : Nat) (l0 l1 : List Pr) (key val : Str) (h0 : Rd w (.slice A0 n0 c0) l0) (h1 : Rd w (.slice A1 n1 c1) l1) (e0 : l0.length = n0) (e1 : l1.length = n1) (m0 : n0 ≤ 9223372036854775807) (m1 : n1 ≤ 9223372036854775807) (m2 : n2 ≤ 9223372036854775807) (i0 : ∀ p ∈ l0, PrIn p) (i1 : ∀ p ∈ l1, PrIn p)
    (hz : ∀ i, i < n2 → ∃ (b o : Nat) (z : Int), A2 = some ⟨b, o, none⟩ ∧ w.cell? ⟨b, o + i, none⟩ = some (.int .i64 z) ∧ -9223372036854775808 ≤ z ∧ z ≤ 9223372036854775807) (hk : key.length ≤ 9223372036854775807) (hv : val.length ≤ 9223372036854775807) :
    Calls Try.prog 5 #[.slice A0 n0 c0, .slice A1 n1 c1, .slice A2 n2 c2, .string (S key), .string (S val)] w fun e w' => e = .returned (.bool true) ∧ Nx w w' := by
  have LV := Lib.hid (lives_any w)
  have LP := Lib.hid (fun W hW => light_any W A0 n0 c0 l0 (h0.nx hW) e0 m0 i0 200 5000 (by decide) (by decide))
  have LQ := Lib.hid (fun W hW => light_any W A1 n1 c1 l1 (h1.nx hW) e1 m1 i1 200 5000 (by decide) (by decide))
  have H0 := Lib.hid h0
  have H1 := Lib.hid h1
  have HZ := Lib.hid hz
  have HKV : Hid (key.length ≤ 9223372036854775807 ∧ val.length ≤ 9223372036854775807) := ⟨hk, hv⟩
  subst e0 e1
  clear h0 h1 i0 i1 m0 m1 hk hv hz
  go_enter Try.func5, Try.ntmps5
  go_wp2_with fail
  refine LV.out.mono ?_
  rintro e w1 ⟨rfl, hn1⟩
  have N1 := Lib.hid hn1
  have LP1 := Lib.hid (LP.out w1 hn1)
  clear LV LP hn1
  go_wp2_with fail
  refine LP1.out.mono ?_
  rintro e w2 ⟨B, rfl, hB, hn2⟩
  have N2 := Lib.hid (N1.out.trans hn2)
  clear LP1 hn2
  cases B with
  | false =>
    clear hB
    go_wp2
    go_ret
    exact ⟨rfl, N2.out⟩
  | true =>
    have HL := Lib.hid (hB rfl)
    clear hB
    have LQ2 := Lib.hid (LQ.out w2 N2.out)
    clear LQ
    go_wp2_with fail
    refine LQ2.out.mono ?_
    rintro e w3 ⟨B, rfl, hB, hn3⟩
    have N3 := Lib.hid (N2.out.trans hn3)
    clear LQ2 hn3
    cases B with
    | false =>
      clear hB
      go_wp2
      go_ret
      exact ⟨rfl, N3.out⟩
    | true =>
      have HM := Lib.hid (hB rfl)
      clear hB
      have hsz := S_size key
      have hsv := S_size val
      by_cases hkl : key.length ≤ 5000
      · have d1 : decide ((key.length : Int) > 5000) = false := by simp; omega
        have d2 : decide (5000 < (key.length : Int)) = false := by simp; omega
        have d3 : decide (5000 < key.length) = false := by simp; omega
        by_cases hvl : val.length ≤ 5000
        · have d4 : decide ((val.length : Int) > 5000) = false := by simp; omega
          have d5 : decide (5000 < (val.length : Int)) = false := by simp; omega
          have d6 : decide (5000 < val.length) = false := by simp; omega
          by_cases hnl : n2 ≤ 200
          · have d7 : decide ((n2 : Int) > 200) = false := by simp; omega
            have d8 : decide (200 < (n2 : Int)) = false := by simp; omega
            have d9 : decide (200 < n2) = false := by simp; omega
            have HKL : Hid (key.length ≤ 100000 ∧ val.length ≤ 100000 ∧ n2 ≤ 200) := ⟨by omega, by omega, hnl⟩
            have MD := Lib.hid (made_any w3 _ l0 (H0.out.nx N3.out) (HL.out.short (by decide)) (by have := HL.out.1; omega))
            clear hkl hvl hnl
            go_wp2_with fail
            refine MD.out.mono ?_
            rintro e w4 ⟨a, b, rfl, ha, hb, hn4⟩
            obtain ⟨u11, rfl⟩ := ha.agg
            obtain ⟨A6, n6, c6, rfl⟩ := hb.agg
            obtain ⟨xs, hxs⟩ : ∃ xs, acts [] l0 = xs := ⟨_, rfl⟩
            have hxl : xs.length ≤ 200 := by
              have h1 := acts_len l0 []
              have h2 := HL.out.1
              rw [hxs] at h1
              simp at h1
              omega
            rw [hxs] at ha
            obtain ⟨W5, hW5⟩ : ∃ W5, (w4.alloc (.cells #[.pointer u11] 24)).alloc (.cells #[.slice A6 n6 c6] 36) = W5 := ⟨_, rfl⟩
            have n5 : Nx w4 W5 := by rw [← hW5]; exact ((Nx.refl _).alloc _).alloc _
            have b11 : BlkIs W5 w4.heap.size 24 #[.pointer u11] := by rw [← hW5]; exact (box_blk w4 _ _).nx ((Nx.refl _).alloc _)
            have t11 := ha.nx n5
            have N5 : Hid (Nx w W5) := (N3.out.trans hn4).trans n5
            have ND := Lib.hid (tnodes_any W5 _ xs t11 (by omega))
            have k11 := b11.at0 (Nx.refl W5)
            have HXL := Lib.hid hxl
            have BT : Hid (BlkIs W5 w4.heap.size 24 #[.pointer u11] ∧ Tb W5 (.agg #[.pointer u11]) xs) := ⟨b11, t11⟩
            clear MD ha hb hxs hxl n5 b11 t11 hn4
            go_wp2_with fail
            refine ND.out.mono ?_
            rintro e w6 ⟨v13, rfl, hrow, hn6⟩
            have g6 : G3 w w4.heap.size u11 xs v13 w6 := ⟨N5.out.trans hn6, BT.out.1.nx hn6, BT.out.2.nx hn6, hrow.rd⟩
            have CM : Hid (∀ a0 : Act, a0.tmps.size = 203 → a0.eval (.tmp 11) = .pointer (some ⟨w4.heap.size, 0, none⟩) → CSb (rops Try.f5 7) a0 w6 w4.heap.size u11 xs) := fun a0 q1 q2 =>
              { hops := rfl, hz := q1, z11 := q2, b11 := g6.b11, t11 := g6.t11, xsn := by have := HXL.out; omega }
            have G6 := Lib.hid g6
            clear ND hrow hn6 g6 BT N5 k11 hW5
            go_wp2_with fail
            refine rgSbL (CM.out _ rfl rfl) ?_
            intro x59 x60 x61 x62 x14 W7 r14 n7
            obtain ⟨A14, c14, rfl⟩ := own_slice r14
            rw [List.length_map] at r14 ⊢
            have LF : Hid (Lf w6 A14 xs W7) := by
              refine ⟨n7, xs, List.Perm.refl _, ?_⟩
              rcases r14.2 with ⟨e, e2⟩ | ⟨g, cap, cur, e, hg, _⟩
              · simp only [Value.slice.injEq] at e
                exact .inl ⟨e.1, List.eq_nil_of_length_eq_zero (by rw [List.length_map] at e2; exact e2)⟩
              · simp only [Value.slice.injEq] at e
                obtain ⟨rfl, _, rfl⟩ := e
                exact .inr ⟨g, rfl, hg, r14.arr⟩
            clear CM r14 n7
            go_wp2
            go_loopg [15] xs.length (fun n p15 wr => ∃ (i : Nat), p15 = .int .i64 (i : Int) ∧ Hid (i + n = xs.length ∧ Lf w6 A14 xs wr))
            case atStart => exact ⟨0, rfl, by omega, LF.out⟩
            case round =>
              obtain ⟨i, rfl, hh⟩ := hrel
              obtain ⟨hi, hlf⟩ := hh.out
              clear LF
              by_cases hlt : i < xs.length
              · have f1 : decide ((i : Int) < (xs.length : Int)) = true := by simp; omega
                have f2 : decide (i < xs.length) = true := by simp; omega
                by_cases hlt2 : i < n2
                · have f3 : decide ((i : Int) < (n2 : Int)) = true := by simp; omega
                  have f4 : decide (i < n2) = true := by simp; omega
                  obtain ⟨b2, o2, z, rfl, hcz, hz1, hz2⟩ := HZ.out i hlt2
                  have x2 : wr.cell? ⟨b2, o2 + i, none⟩ = some (.int .i64 z) := cell_nx hcz (G6.out.n.trans hlf.1)
                  obtain ⟨hnx, L, hperm, hL⟩ := hlf
                  have hLl : L.length = xs.length := hperm.length_eq
                  rcases hL with ⟨_, e⟩ | ⟨g, rfl, hg, har⟩
                  · exfalso; rw [e] at hLl; simp at hLl; omega
                  obtain ⟨m, hm⟩ : ∃ m, xs.length - i = m := ⟨_, rfl⟩
                  have hm1 : 1 ≤ m := by omega
                  have hwm : IntKind.i64.wrap ((xs.length : Int) - (i : Int)) = (m : Int) := by rw [IntWalk.i64_in _ (by have := HXL.out; omega)]; omega
                  have plo := pickOf_lo z m (by omega)
                  have phi := pickOf_hi z m (by omega)
                  have PK := Lib.hid (fun V => pick_any z m V (by omega) (by have := HXL.out; omega) hz1 hz2)
                  obtain ⟨k, hkk⟩ : ∃ k : Nat, (i : Int) + pickOf z m = (k : Int) := ⟨((i : Int) + pickOf z m).toNat, by omega⟩
                  have hwk : IntKind.i64.wrap ((i : Int) + pickOf z m) = (k : Int) := by rw [IntWalk.i64_in _ (by have := HXL.out; omega)]; exact hkk
                  have hkl : k < xs.length := by omega
                  have hw : IntKind.i64.wrap ((i : Int) + 1) = (i : Int) + 1 := IntWalk.i64_in _ (by have := HXL.out; omega)
                  have hil : i < L.length := by omega
                  have hkL : k < L.length := by omega
                  have hsp := (List.set_set_perm hil hkL).trans hperm
                  obtain ⟨xi, hxi⟩ : ∃ e, L[i] = e := ⟨_, rfl⟩
                  obtain ⟨xk, hxk⟩ : ∃ e, L[k] = e := ⟨_, rfl⟩
                  rw [hxi, hxk] at hsp
                  have CM : Hid (∀ a0 : Act, a0.tmps.size = 203 → a0.eval (.tmp 14) = .slice (some ⟨g, 0, none⟩) xs.length c14 → a0.eval (.tmp 15) = .int .i64 (i : Int) → a0.eval (.tmp 16) = .int .i64 (k : Int) → CSa (rops Try.f5 12) a0 wr g xs.length c14 i k (L.map prOf) (prOf xi) (prOf xk)) := fun a0 q1 q2 q3 q4 =>
                    { hops := rfl, hz := q1, z14 := q2, z15 := q3, z16 := q4, ar := har, ii := hlt, kk := hkl, nn := by rw [List.length_map]; exact hLl, hi := by rw [List.getElem?_map, List.getElem?_eq_getElem hil, hxi]; rfl, hk := by rw [List.getElem?_map, List.getElem?_eq_getElem hkL, hxk]; rfl }
                  have NXT : Hid (gk - 1 < gk ∧ i + 1 + (gk - 1) = xs.length ∧ ∀ W', Chd (fun j => j = g) wr W' → Arr W' g (((L.map prOf).set i (prOf xk)).set k (prOf xi)) → Lf w6 (some ⟨g, 0, none⟩) xs W') := by
                    refine ⟨by omega, by omega, fun W' hc ha => ⟨Below.trans hnx (hc.below hnx.size fun j hj => by omega), (L.set i xk).set k xi, hsp, .inr ⟨g, rfl, hg, ?_⟩⟩⟩
                    rw [List.map_set, List.map_set]
                    exact ha
                  have e3 : (i : Int) < (n2 : Int) := by omega
                  have e4 : (0 : Int) ≤ (i : Int) := by omega
                  clear hcz hz1 hz2 hperm hLl har hm hm1 plo phi hkk hsp hxi hxk hil hkL hnx hg hh hi hkl hlt hlt2
                  go_wp2_with fail
                  refine (PK.out _).mono ?_
                  rintro e w8 ⟨rfl, rfl⟩
                  clear PK x2
                  go_wp2_with fail
                  refine rgSaL (CM.out _ rfl rfl rfl rfl) ?_
                  intro x86 x87 x88 x89 x90 x91 x92 x93 x94 x95 x96 x97 x98 x99 W8 g1 g2
                  have LF2 := Lib.hid (NXT.out.2.2 W8 g1 g2)
                  clear CM g1 g2
                  go_wp2
                  go_roundg (gk - 1)
                  case measure => exact NXT.out.1
                  case rel => exact ⟨i + 1, by push_cast; rfl, NXT.out.2.1, LF2.out⟩
                · have f3 : decide ((i : Int) < (n2 : Int)) = false := by simp; omega
                  have f4 : decide (i < n2) = false := by simp; omega
                  obtain ⟨hnx, L, hperm, hL⟩ := hlf
                  have hLl : L.length = xs.length := hperm.length_eq
                  have hrd : Rd wr (.slice A14 xs.length c14) (L.map prOf) := by
                    rcases hL with ⟨_, e⟩ | ⟨g, rfl, hg, har⟩
                    · subst e
                      have e2 : xs.length = 0 := hLl.symm
                      rw [e2]
                      exact .inl ⟨_, _, rfl, rfl⟩
                    · have := har.rd (c := c14)
                      rwa [List.length_map, hLl] at this
                  have g7 := G6.out.nx hnx
                  have OF := Lib.hid (of_any wr _ _ hrd (g7.t11.shorts.map fun e he => hperm.mem_iff.1 he) (by rw [List.length_map, hLl]; have := HXL.out; omega))
                  rw [ofL_perm hperm g7.t11.srt] at OF
                  have G7 := Lib.hid g7
                  clear hnx hperm hL hLl hrd g7 hh hi
                  go_wp2_with fail
                  refine OF.out.mono ?_
                  rintro e w8 ⟨T8, rfl, ht8, hn8⟩
                  have ND := Lib.hid (tnodes_any w8 _ xs ht8 (by have := HXL.out; omega))
                  have G8 := Lib.hid (G7.out.nx hn8)
                  clear OF ht8 hn8 G7
                  go_wp2_with fail
                  refine ND.out.mono ?_
                  rintro e w9 ⟨r9, rfl, hrow, hn9⟩
                  have g9 := G8.out.nx hn9
                  have PS := Lib.hid (pairs_any w9 _ _ _ _ hrow.rd g9.r13 (by rw [List.length_map, nodes_length]; have := HXL.out; omega))
                  rw [decide_eq_true rfl] at PS
                  have G9 := Lib.hid g9
                  clear ND hrow hn9 g9 G8
                  go_wp2_with fail
                  refine PS.out.mono ?_
                  rintro e w10 ⟨rfl, hn10⟩
                  have g10 := G9.out.nx hn10
                  have MD := Lib.hid (made_any w10 _ l1 (H1.out.nx g10.n) (HM.out.short (by decide)) (by have := HM.out.1; omega))
                  have G10 := Lib.hid g10
                  clear PS hn10 g10 G9
                  go_wp2_with fail
                  refine MD.out.mono ?_
                  rintro e w11 ⟨a, b, rfl, ha, hb, hn11⟩
                  obtain ⟨u17, rfl⟩ := ha.agg
                  obtain ⟨A18, n18, c18, rfl⟩ := hb.agg
                  obtain ⟨ys, hys⟩ : ∃ ys, acts [] l1 = ys := ⟨_, rfl⟩
                  have hyl : ys.length ≤ 200 := by
                    have h1 := acts_len l1 []
                    have h2 := HM.out.1
                    rw [hys] at h1
                    simp at h1
                    omega
                  rw [hys] at ha
                  obtain ⟨W12, hW12⟩ : ∃ W12, (w11.alloc (.cells #[.pointer u17] 24)).alloc (.cells #[.slice A18 n18 c18] 36) = W12 := ⟨_, rfl⟩
                  have n12 : Nx w11 W12 := by rw [← hW12]; exact ((Nx.refl _).alloc _).alloc _
                  have b17 : BlkIs W12 w11.heap.size 24 #[.pointer u17] := by rw [← hW12]; exact (box_blk w11 _ _).nx ((Nx.refl _).alloc _)
                  have t17 := ha.nx n12
                  have g12 := G10.out.nx (hn11.trans n12)
                  have CH := Lib.hid (tchanges_any W12 _ _ xs ys g12.t11 t17 (by have := HXL.out; omega) (by omega))
                  have k11 := g12.b11.at0 (Nx.refl W12)
                  have k17 := b17.at0 (Nx.refl W12)
                  have G12 := Lib.hid g12
                  have B12 := Lib.hid b17
                  have T12 := Lib.hid t17
                  have HYL := Lib.hid hyl
                  clear MD ha hb hys hyl n12 b17 t17 g12 hn11 G10
                  go_wp2_with fail
                  refine CH.out.mono ?_
                  rintro e w13 ⟨r13, rfl, hrow, hn13⟩
                  obtain ⟨A19, c19, rfl⟩ := own_slice hrow
                  have G13 : Hid (G4 w w4.heap.size u11 xs v13 w11.heap.size u17 ys (.slice A19 (chg xs ys).length c19) w13) := ⟨G12.out.nx hn13, B12.out.nx hn13, T12.out.nx hn13, hrow.rd⟩
                  obtain ⟨C, hC⟩ : ∃ C, chg xs ys = C := ⟨_, rfl⟩
                  have hCl : C.length ≤ 400 := by have := chg_len xs ys; have := HXL.out; have := HYL.out; rw [← hC]; omega
                  have hCs : ShortP C := by rw [← hC]; exact chg_short G13.out.g.t11.srt G13.out.t17.srt G13.out.g.t11.shorts G13.out.t17.shorts
                  have hCa : acts xs C = ys := by rw [← hC]; exact acts_chg G13.out.g.t11.srt G13.out.t17.srt
                  have R19 : Hid (Rd w13 (.slice A19 C.length c19) C) := by have := G13.out.r19; rwa [hC] at this
                  rw [hC]
                  have HC : Hid (C.length ≤ 400 ∧ ShortP C ∧ acts xs C = ys) := ⟨hCl, hCs, hCa⟩
                  obtain ⟨W14, hW14⟩ : ∃ W14, w13.alloc (.cells #[.pointer u11] 24) = W14 := ⟨_, rfl⟩
                  have k13 := G13.out.g.b11.at0 (Nx.refl w13)
                  have START : Hid (∃ u, BlkIs W14 w13.heap.size 24 #[.pointer u] ∧ Tb W14 (.agg #[.pointer u]) (acts xs (C.take 0)) ∧ Nx w13 W14) := by
                    have n14 : Nx w13 W14 := by rw [← hW14]; exact (Nx.refl _).alloc _
                    refine ⟨u11, ?_, G13.out.g.t11.nx n14, n14⟩
                    rw [← hW14]; exact BlkIs.new _ _ _
                  clear CH hrow hn13 k11 k17 G12 B12 T12 hW12 hC hCl hCs hCa
                  go_wp2
                  go_loopg [21] C.length (fun n p21 wr => ∃ (i : Nat), p21 = .int .i64 (i : Int) ∧ Hid (i + n = C.length ∧ ∃ u, BlkIs wr w13.heap.size 24 #[.pointer u] ∧ Tb wr (.agg #[.pointer u]) (acts xs (C.take i)) ∧ Nx w13 wr))
                  case atStart => exact ⟨0, rfl, by omega, by first | exact START.out | (rw [hW14]; exact START.out)⟩
                  case round =>
                    obtain ⟨j, rfl, hh⟩ := hrel
                    clear START hW14
                    obtain ⟨hi, u, hb, ht, hnx⟩ := hh.out
                    by_cases hlt : j < C.length
                    · have e2 : decide ((j : Int) < (C.length : Int)) = true := by simpa using hlt
                      have e3 : (0 : Int) ≤ (j : Int) := by omega
                      have e4 : (j : Int) < (C.length : Int) := by omega
                      rcases R19.out.nx hnx with ⟨_, _, _, e⟩ | ⟨ba, oa, c1, ea, hca⟩
                      · rw [e] at hlt; cases hlt
                      · simp only [Value.slice.injEq] at ea
                        obtain ⟨rfl, _, rfl⟩ := ea
                        obtain ⟨x0, x1, x2⟩ := Rd.cells hca j hlt
                        have hbl : ba < wr.heap.size := World.block_lt_of_cell? _ _ x0
                        have hb13 : ba < w13.heap.size := by
                          rcases R19.out with ⟨_, _, _, e⟩ | ⟨ba', oa', c1', ea', hca'⟩
                          · rw [e] at hlt; cases hlt
                          · simp only [Value.slice.injEq, Option.some.injEq, Addr.mk.injEq, and_true] at ea'
                            obtain ⟨⟨rfl, rfl⟩, _, rfl⟩ := ea'
                            exact World.block_lt_of_cell? _ _ (Rd.cells hca' j hlt).1
                        have KP : Hid (∀ V, Nx wr V → V.cell? ⟨ba, oa + j * 3, none⟩ = some (.string (S C[j].k)) ∧ V.cell? ⟨ba, oa + j * 3 + 1, none⟩ = some (.string (S C[j].v)) ∧ V.cell? ⟨ba, oa + j * 3 + 2, none⟩ = some (.bool C[j].g)) := fun V hV => ⟨cell_nx x0 hV, cell_nx x1 hV, cell_nx x2 hV⟩
                        have KS : Hid (∀ V v, Nx wr V → (V.setCell ⟨w13.heap.size, 0, none⟩ v).cell? ⟨ba, oa + j * 3, none⟩ = some (.string (S C[j].k)) ∧ (V.setCell ⟨w13.heap.size, 0, none⟩ v).cell? ⟨ba, oa + j * 3 + 1, none⟩ = some (.string (S C[j].v))) := fun V v hV => by
                          have h1 := KP.out V hV
                          have h2 := (Chd.set V w13.heap.size 0 v).block ba (by have := hV.size; omega) (by omega)
                          exact ⟨by rw [World.cell?_of_block h2]; exact h1.1, by rw [World.cell?_of_block h2]; exact h1.2.1⟩
                        have hsh := HC.out.2.1 _ (List.getElem_mem hlt)
                        have hof := acts_take xs C j hlt
                        have hol := acts_len (C.take j) xs
                        rw [List.length_take] at hol
                        clear hca
                        generalize C[j] = p at *
                        have hw : IntKind.i64.wrap ((j : Int) + 1) = (j : Int) + 1 := IntWalk.i64_in _ (by have := HC.out.1; omega)
                        have c3 : wr.cell? ⟨w13.heap.size, 0, none⟩ = some (.pointer u) := hb.at0 (Nx.refl wr)
                        have FIN : Hid (∀ u' w', Tb w' (.agg #[.pointer u']) (actP (acts xs (C.take j)) p) → Nx wr w' → w'.cell? ⟨w13.heap.size, 0, none⟩ = some (.pointer u) ∧ w'.frozen? ⟨w13.heap.size, 0, none⟩ = false ∧ gk - 1 < gk ∧ j + 1 + (gk - 1) = C.length ∧ ∃ u, BlkIs (w'.setCell ⟨w13.heap.size, 0, none⟩ (.pointer u')) w13.heap.size 24 #[.pointer u] ∧ Tb (w'.setCell ⟨w13.heap.size, 0, none⟩ (.pointer u')) (.agg #[.pointer u]) (acts xs (C.take (j + 1))) ∧ Nx w13 (w'.setCell ⟨w13.heap.size, 0, none⟩ (.pointer u'))) := fun u' w' ht' hn' => by
                          have hb' := hb.nx hn'
                          refine ⟨hb'.at0 (Nx.refl w'), hb'.frozen 0, by omega, by omega, u', hb'.set 0 _, ?_, (hnx.trans hn').set _ 0 _ (Nat.le_refl _)⟩
                          rw [hof]
                          exact ht'.store hb' (by decide) 0 _
                        have HXC : Hid (xs.length ≤ 200 ∧ C.length ≤ 400) := ⟨HXL.out, HC.out.1⟩
                        cases hg : p.g with
                        | true =>
                          rw [hg] at x2
                          have DR := Lib.hid (tdrop_any wr.drew (.agg #[.pointer u]) _ p.k (ht.nx (Nx.drew (Nx.refl wr))) (by have := HXC.out; omega))
                          have ha : actP (acts xs (C.take j)) p = era p.k (acts xs (C.take j)) := by unfold actP; rw [if_pos hg]
                          rw [ha] at FIN
                          clear hb ht hnx hh hof hol hsh hi ha hbl hb13 KP
                          go_wp2_with fail
                          go_region_with (go_at_call 14; refine DR.out.mono ?_; rintro e w' ⟨r, rfl, ht', hn'⟩; obtain ⟨u', rfl⟩ := ht'.agg; obtain ⟨g1, g2, g3, g4⟩ := FIN.out u' w' ht' ((Nx.drew (Nx.refl wr)).trans hn'); have G4 := Lib.hid g4; clear g4 ht')
                          all_goals
                            clear x0 x1 c3
                            go_wp2
                            go_roundg (gk - 1)
                            case measure => exact g3
                            case rel => exact ⟨j + 1, by push_cast; rfl, G4⟩
                        | false =>
                          rw [hg] at x2
                          have PT := Lib.hid (tput_any wr.drew (.agg #[.pointer u]) _ p.k p.v (ht.nx (Nx.drew (Nx.refl wr))) (by have := HXC.out; omega) hsh.1 hsh.2)
                          have ha : actP (acts xs (C.take j)) p = ins p.k p.v (acts xs (C.take j)) := by unfold actP; rw [if_neg (by rw [hg]; decide)]
                          rw [ha] at FIN
                          clear hb ht hnx hh hof hol hsh hi ha hbl hb13 KP
                          go_wp2_with fail
                          go_region_with (go_at_call 10; refine PT.out.mono ?_; rintro e w' ⟨r, rfl, ht', hn'⟩; obtain ⟨u', rfl⟩ := ht'.agg; obtain ⟨g1, g2, g3, g4⟩ := FIN.out u' w' ht' ((Nx.drew (Nx.refl wr)).trans hn'); have G4 := Lib.hid g4; clear g4 ht')
                          all_goals
                            clear x0 x1 c3
                            go_wp2
                            go_roundg (gk - 1)
                            case measure => exact g3
                            case rel => exact ⟨j + 1, by push_cast; rfl, G4⟩
                    · have e2 : decide ((j : Int) < (C.length : Int)) = false := by simpa using hlt
                      have e3 : decide (j < C.length) = false := by simpa using hlt
                      have g14 := G13.out.nx hnx
                      have CT := Lib.hid (tcut_any wr _ xs key g14.g.t11 (by have := HXL.out; omega))
                      have k11 := g14.g.b11.at0 (Nx.refl wr)
                      rw [List.take_of_length_le (by omega), HC.out.2.2] at ht
                      have B20 := Lib.hid hb
                      have T20 := Lib.hid ht
                      have G14 := Lib.hid g14
                      clear hb ht hnx hh hi hlt g14
                      go_wp2_with fail
                      refine CT.out.mono ?_
                      rintro e w15 ⟨a, b, rfl, ha, hb, hn15⟩
                      obtain ⟨va, rfl⟩ := ha.agg
                      obtain ⟨vb, rfl⟩ := hb.agg
                      obtain ⟨W16, hW16⟩ : ∃ W16, (w15.alloc (.cells #[.pointer va] 24)).alloc (.cells #[.pointer vb] 24) = W16 := ⟨_, rfl⟩
                      have n16 : Nx w15 W16 := by rw [← hW16]; exact ((Nx.refl _).alloc _).alloc _
                      have b22 : BlkIs W16 w15.heap.size 24 #[.pointer va] := by rw [← hW16]; exact (box_blk w15 _ _).nx ((Nx.refl _).alloc _)
                      have b23 : BlkIs W16 (w15.heap.size + 1) 24 #[.pointer vb] := by
                        rw [← hW16]
                        have := box_blk (w15.alloc (.cells #[.pointer va] 24)) (.pointer vb) 24
                        rwa [World.size_alloc] at this
                      obtain ⟨ps, hps⟩ : ∃ ps, xs.take (place key xs) = ps := ⟨_, rfl⟩
                      obtain ⟨qs, hqs⟩ : ∃ qs, xs.drop (place key xs) = qs := ⟨_, rfl⟩
                      rw [hps] at ha
                      rw [hqs] at hb
                      have hpq : ps ++ qs = xs := by rw [← hps, ← hqs]; exact List.take_append_drop _ _
                      have hpl : ps.length ≤ 200 ∧ qs.length ≤ 200 := by have h1 := congrArg List.length hpq; rw [List.length_append] at h1; have := HXL.out; omega
                      have CM : Hid (∀ a0 : Act, a0.tmps.size = 203 → a0.eval (.tmp 22) = .pointer (some ⟨w15.heap.size, 0, none⟩) → a0.eval (.tmp 23) = .pointer (some ⟨w15.heap.size + 1, 0, none⟩) → CSc (rops Try.f5 25) a0 W16 w15.heap.size (w15.heap.size + 1) va vb ps qs) := fun a0 q1 q2 q3 =>
                        { hops := rfl, hz := q1, z22 := q2, z23 := q3, b22 := b22, t22 := ha.nx n16, b23 := b23, t23 := hb.nx n16, psn := by omega, qsn := by omega }
                      have HPQ := Lib.hid hpq
                      have G16 : Hid (G4 w w4.heap.size u11 xs v13 w11.heap.size u17 ys (.slice A19 (chg xs ys).length c19) W16 ∧ BlkIs W16 w13.heap.size 24 #[.pointer u] ∧ Tb W16 (.agg #[.pointer u]) ys) := ⟨G14.out.nx (hn15.trans n16), B20.out.nx (hn15.trans n16), T20.out.nx (hn15.trans n16)⟩
                      clear CT ha hb hn15 n16 b22 b23 hps hqs hpq hpl k11 G14 B20 T20
                      go_wp2_with fail
                      refine rgScL (CM.out _ rfl rfl rfl) ?_
                      intro x151 x152 x153 x154 x155 x156 x157 x158 x159 x24 W17 r24 n17
                      rw [← List.map_append, HPQ.out] at r24
                      have g17 := G16.out.1.nx n17
                      have k11 := g17.g.b11.at0 (Nx.refl W17)
                      have PT := Lib.hid (tput_any W17 _ xs key val g17.g.t11 (by have := HXL.out; omega) HKL.out.1 HKL.out.2.1)
                      have G17 : Hid (G4 w w4.heap.size u11 xs v13 w11.heap.size u17 ys (.slice A19 (chg xs ys).length c19) W17 ∧ BlkIs W17 w13.heap.size 24 #[.pointer u] ∧ Tb W17 (.agg #[.pointer u]) ys) := ⟨g17, G16.out.2.1.nx n17, G16.out.2.2.nx n17⟩
                      have R24 := Lib.hid r24
                      clear CM r24 n17 g17 G16 hW16
                      go_wp2_with fail
                      refine PT.out.mono ?_
                      rintro e w18 ⟨T18, rfl, -, hn18⟩
                      have g18 := G17.out.1.nx hn18
                      have k12 := g18.g.b11.at0 (Nx.refl w18)
                      have DR := Lib.hid (tdrop_any w18 _ xs key g18.g.t11 (by have := HXL.out; omega))
                      have G18 : Hid (G4 w w4.heap.size u11 xs v13 w11.heap.size u17 ys (.slice A19 (chg xs ys).length c19) w18 ∧ BlkIs w18 w13.heap.size 24 #[.pointer u] ∧ Tb w18 (.agg #[.pointer u]) ys ∧ Rd w18 x24 (xs.map prOf)) := ⟨g18, G17.out.2.1.nx hn18, G17.out.2.2.nx hn18, R24.out.nx hn18⟩
                      clear PT hn18 g18 G17 R24 k11
                      go_wp2_with fail
                      refine DR.out.mono ?_
                      rintro e w19 ⟨T19, rfl, -, hn19⟩
                      have g19 := G18.out.1.nx hn19
                      have k13 := g19.g.b11.at0 (Nx.refl w19)
                      have PT := Lib.hid (tput_any w19 _ xs key val g19.g.t11 (by have := HXL.out; omega) HKL.out.1 HKL.out.2.1)
                      have G19 : Hid (G4 w w4.heap.size u11 xs v13 w11.heap.size u17 ys (.slice A19 (chg xs ys).length c19) w19 ∧ BlkIs w19 w13.heap.size 24 #[.pointer u] ∧ Tb w19 (.agg #[.pointer u]) ys ∧ Rd w19 x24 (xs.map prOf)) := ⟨g19, G18.out.2.1.nx hn19, G18.out.2.2.1.nx hn19, G18.out.2.2.2.nx hn19⟩
                      clear DR hn19 g19 G18 k12
                      go_wp2_with fail
                      refine PT.out.mono ?_
                      rintro e w20 ⟨T20, rfl, ht20, hn20⟩
                      have GT := Lib.hid (tget_any w20 _ _ key ht20)
                      rw [look_put G19.out.1.g.t11.srt] at GT
                      have G20 : Hid (G4 w w4.heap.size u11 xs v13 w11.heap.size u17 ys (.slice A19 (chg xs ys).length c19) w20 ∧ BlkIs w20 w13.heap.size 24 #[.pointer u] ∧ Tb w20 (.agg #[.pointer u]) ys ∧ Rd w20 x24 (xs.map prOf)) := ⟨G19.out.1.nx hn20, G19.out.2.1.nx hn20, G19.out.2.2.1.nx hn20, G19.out.2.2.2.nx hn20⟩
                      clear PT ht20 hn20 G19 k13
                      unfold getV at GT
                      go_wp2_with fail
                      refine GT.out.mono ?_
                      rintro e w21 ⟨rfl, hn21⟩
                      have g21 := G20.out.1.nx hn21
                      have CM : Hid (∀ a0 : Act, a0.tmps.size = 203 → a0.eval (.tmp 11) = .pointer (some ⟨w4.heap.size, 0, none⟩) → a0.eval (.tmp 17) = .pointer (some ⟨w11.heap.size, 0, none⟩) → a0.eval (.tmp 20) = .pointer (some ⟨w13.heap.size, 0, none⟩) → a0.eval (.tmp 24) = x24 → a0.eval (.tmp 13) = v13 → a0.eval (.tmp 26) = .bool true → a0.eval (.tmp 25) = .string (S val) → a0.eval (.tmp 4) = .string (S val) → CSd (rops Try.f5 29) a0 w21 w4.heap.size w11.heap.size w13.heap.size u11 u17 u x24 v13 val xs ys) := fun a0 q1 q2 q3 q4 q5 q6 q7 q8 q9 =>
                        { hops := rfl, hz := q1, z11 := q2, z17 := q3, z20 := q4, z24 := q5, z13 := q6, z26 := q7, z25 := q8, z4 := q9, b11 := g21.g.b11, t11 := g21.g.t11, b17 := g21.b17, t17 := g21.t17, b20 := G20.out.2.1.nx hn21, t20 := G20.out.2.2.1.nx hn21, xsn := by have := HXL.out; omega, ysn := by have := HYL.out; omega, r24 := G20.out.2.2.2.nx hn21, r13 := g21.g.r13 }
                      have N21 : Hid (Nx w w21) := g21.g.n
                      clear GT hn21 g21 G20
                      go_wp2_with fail
                      refine rgSdL (CM.out _ rfl rfl rfl rfl rfl rfl rfl rfl rfl) ?_
                      intro x176 x177 x178 x179 x180 x181 x182 x183 x184 x185 x186 x187 x188 x189 x190 x191 x192 x193 x194 x195 x196 x197 x198 x199 x200 x201 x202 W22 n22
                      have N22 : Hid (Nx w W22) := N21.out.trans n22
                      clear CM n22
                      go_wp2
                      go_ret
                      exact ⟨rfl, N22.out⟩
              · have f1 : decide ((i : Int) < (xs.length : Int)) = false := by simp; omega
                have f2 : decide (i < xs.length) = false := by simp; omega
                obtain ⟨hnx, L, hperm, hL⟩ := hlf
                have hLl : L.length = xs.length := hperm.length_eq
                have hrd : Rd wr (.slice A14 xs.length c14) (L.map prOf) := by
                  rcases hL with ⟨_, e⟩ | ⟨g, rfl, hg, har⟩
                  · subst e
                    have e2 : xs.length = 0 := hLl.symm
                    rw [e2]
                    exact .inl ⟨_, _, rfl, rfl⟩
                  · have := har.rd (c := c14)
                    rwa [List.length_map, hLl] at this
                have g7 := G6.out.nx hnx
                have OF := Lib.hid (of_any wr _ _ hrd (g7.t11.shorts.map fun e he => hperm.mem_iff.1 he) (by rw [List.length_map, hLl]; have := HXL.out; omega))
                rw [ofL_perm hperm g7.t11.srt] at OF
                have G7 := Lib.hid g7
                clear hnx hperm hL hLl hrd g7 hh hi
                go_wp2_with fail
                refine OF.out.mono ?_
                rintro e w8 ⟨T8, rfl, ht8, hn8⟩
                have ND := Lib.hid (tnodes_any w8 _ xs ht8 (by have := HXL.out; omega))
                have G8 := Lib.hid (G7.out.nx hn8)
                clear OF ht8 hn8 G7
                go_wp2_with fail
                refine ND.out.mono ?_
                rintro e w9 ⟨r9, rfl, hrow, hn9⟩
                have g9 := G8.out.nx hn9
                have PS := Lib.hid (pairs_any w9 _ _ _ _ hrow.rd g9.r13 (by rw [List.length_map, nodes_length]; have := HXL.out; omega))
                rw [decide_eq_true rfl] at PS
                have G9 := Lib.hid g9
                clear ND hrow hn9 g9 G8
                go_wp2_with fail
                refine PS.out.mono ?_
                rintro e w10 ⟨rfl, hn10⟩
                have g10 := G9.out.nx hn10
                have MD := Lib.hid (made_any w10 _ l1 (H1.out.nx g10.n) (HM.out.short (by decide)) (by have := HM.out.1; omega))
                have G10 := Lib.hid g10
                clear PS hn10 g10 G9
                go_wp2_with fail
                refine MD.out.mono ?_
                rintro e w11 ⟨a, b, rfl, ha, hb, hn11⟩
                obtain ⟨u17, rfl⟩ := ha.agg
                obtain ⟨A18, n18, c18, rfl⟩ := hb.agg
                obtain ⟨ys, hys⟩ : ∃ ys, acts [] l1 = ys := ⟨_, rfl⟩
                have hyl : ys.length ≤ 200 := by
                  have h1 := acts_len l1 []
                  have h2 := HM.out.1
                  rw [hys] at h1
                  simp at h1
                  omega
                rw [hys] at ha
                obtain ⟨W12, hW12⟩ : ∃ W12, (w11.alloc (.cells #[.pointer u17] 24)).alloc (.cells #[.slice A18 n18 c18] 36) = W12 := ⟨_, rfl⟩
                have n12 : Nx w11 W12 := by rw [← hW12]; exact ((Nx.refl _).alloc _).alloc _
                have b17 : BlkIs W12 w11.heap.size 24 #[.pointer u17] := by rw [← hW12]; exact (box_blk w11 _ _).nx ((Nx.refl _).alloc _)
                have t17 := ha.nx n12
                have g12 := G10.out.nx (hn11.trans n12)
                have CH := Lib.hid (tchanges_any W12 _ _ xs ys g12.t11 t17 (by have := HXL.out; omega) (by omega))
                have k11 := g12.b11.at0 (Nx.refl W12)
                have k17 := b17.at0 (Nx.refl W12)
                have G12 := Lib.hid g12
                have B12 := Lib.hid b17
                have T12 := Lib.hid t17
                have HYL := Lib.hid hyl
                clear MD ha hb hys hyl n12 b17 t17 g12 hn11 G10
                go_wp2_with fail
                refine CH.out.mono ?_
                rintro e w13 ⟨r13, rfl, hrow, hn13⟩
                obtain ⟨A19, c19, rfl⟩ := own_slice hrow
                have G13 : Hid (G4 w w4.heap.size u11 xs v13 w11.heap.size u17 ys (.slice A19 (chg xs ys).length c19) w13) := ⟨G12.out.nx hn13, B12.out.nx hn13, T12.out.nx hn13, hrow.rd⟩
                obtain ⟨C, hC⟩ : ∃ C, chg xs ys = C := ⟨_, rfl⟩
                have hCl : C.length ≤ 400 := by have := chg_len xs ys; have := HXL.out; have := HYL.out; rw [← hC]; omega
                have hCs : ShortP C := by rw [← hC]; exact chg_short G13.out.g.t11.srt G13.out.t17.srt G13.out.g.t11.shorts G13.out.t17.shorts
                have hCa : acts xs C = ys := by rw [← hC]; exact acts_chg G13.out.g.t11.srt G13.out.t17.srt
                have R19 : Hid (Rd w13 (.slice A19 C.length c19) C) := by have := G13.out.r19; rwa [hC] at this
                rw [hC]
                have HC : Hid (C.length ≤ 400 ∧ ShortP C ∧ acts xs C = ys) := ⟨hCl, hCs, hCa⟩
                obtain ⟨W14, hW14⟩ : ∃ W14, w13.alloc (.cells #[.pointer u11] 24) = W14 := ⟨_, rfl⟩
                have k13 := G13.out.g.b11.at0 (Nx.refl w13)
                have START : Hid (∃ u, BlkIs W14 w13.heap.size 24 #[.pointer u] ∧ Tb W14 (.agg #[.pointer u]) (acts xs (C.take 0)) ∧ Nx w13 W14) := by
                  have n14 : Nx w13 W14 := by rw [← hW14]; exact (Nx.refl _).alloc _
                  refine ⟨u11, ?_, G13.out.g.t11.nx n14, n14⟩
                  rw [← hW14]; exact BlkIs.new _ _ _
                clear CH hrow hn13 k11 k17 G12 B12 T12 hW12 hC hCl hCs hCa
                go_wp2
                go_loopg [21] C.length (fun n p21 wr => ∃ (i : Nat), p21 = .int .i64 (i : Int) ∧ Hid (i + n = C.length ∧ ∃ u, BlkIs wr w13.heap.size 24 #[.pointer u] ∧ Tb wr (.agg #[.pointer u]) (acts xs (C.take i)) ∧ Nx w13 wr))
                case atStart => exact ⟨0, rfl, by omega, by first | exact START.out | (rw [hW14]; exact START.out)⟩
                case round =>
                  obtain ⟨j, rfl, hh⟩ := hrel
                  clear START hW14
                  obtain ⟨hi, u, hb, ht, hnx⟩ := hh.out
                  by_cases hlt : j < C.length
                  · have e2 : decide ((j : Int) < (C.length : Int)) = true := by simpa using hlt
                    have e3 : (0 : Int) ≤ (j : Int) := by omega
                    have e4 : (j : Int) < (C.length : Int) := by omega
                    rcases R19.out.nx hnx with ⟨_, _, _, e⟩ | ⟨ba, oa, c1, ea, hca⟩
                    · rw [e] at hlt; cases hlt
                    · simp only [Value.slice.injEq] at ea
                      obtain ⟨rfl, _, rfl⟩ := ea
                      obtain ⟨x0, x1, x2⟩ := Rd.cells hca j hlt
                      have hbl : ba < wr.heap.size := World.block_lt_of_cell? _ _ x0
                      have hb13 : ba < w13.heap.size := by
                        rcases R19.out with ⟨_, _, _, e⟩ | ⟨ba', oa', c1', ea', hca'⟩
                        · rw [e] at hlt; cases hlt
                        · simp only [Value.slice.injEq, Option.some.injEq, Addr.mk.injEq, and_true] at ea'
                          obtain ⟨⟨rfl, rfl⟩, _, rfl⟩ := ea'
                          exact World.block_lt_of_cell? _ _ (Rd.cells hca' j hlt).1
                      have KP : Hid (∀ V, Nx wr V → V.cell? ⟨ba, oa + j * 3, none⟩ = some (.string (S C[j].k)) ∧ V.cell? ⟨ba, oa + j * 3 + 1, none⟩ = some (.string (S C[j].v)) ∧ V.cell? ⟨ba, oa + j * 3 + 2, none⟩ = some (.bool C[j].g)) := fun V hV => ⟨cell_nx x0 hV, cell_nx x1 hV, cell_nx x2 hV⟩
                      have KS : Hid (∀ V v, Nx wr V → (V.setCell ⟨w13.heap.size, 0, none⟩ v).cell? ⟨ba, oa + j * 3, none⟩ = some (.string (S C[j].k)) ∧ (V.setCell ⟨w13.heap.size, 0, none⟩ v).cell? ⟨ba, oa + j * 3 + 1, none⟩ = some (.string (S C[j].v))) := fun V v hV => by
                        have h1 := KP.out V hV
                        have h2 := (Chd.set V w13.heap.size 0 v).block ba (by have := hV.size; omega) (by omega)
                        exact ⟨by rw [World.cell?_of_block h2]; exact h1.1, by rw [World.cell?_of_block h2]; exact h1.2.1⟩
                      have hsh := HC.out.2.1 _ (List.getElem_mem hlt)
                      have hof := acts_take xs C j hlt
                      have hol := acts_len (C.take j) xs
                      rw [List.length_take] at hol
                      clear hca
                      generalize C[j] = p at *
                      have hw : IntKind.i64.wrap ((j : Int) + 1) = (j : Int) + 1 := IntWalk.i64_in _ (by have := HC.out.1; omega)
                      have c3 : wr.cell? ⟨w13.heap.size, 0, none⟩ = some (.pointer u) := hb.at0 (Nx.refl wr)
                      have FIN : Hid (∀ u' w', Tb w' (.agg #[.pointer u']) (actP (acts xs (C.take j)) p) → Nx wr w' → w'.cell? ⟨w13.heap.size, 0, none⟩ = some (.pointer u) ∧ w'.frozen? ⟨w13.heap.size, 0, none⟩ = false ∧ gk - 1 < gk ∧ j + 1 + (gk - 1) = C.length ∧ ∃ u, BlkIs (w'.setCell ⟨w13.heap.size, 0, none⟩ (.pointer u')) w13.heap.size 24 #[.pointer u] ∧ Tb (w'.setCell ⟨w13.heap.size, 0, none⟩ (.pointer u')) (.agg #[.pointer u]) (acts xs (C.take (j + 1))) ∧ Nx w13 (w'.setCell ⟨w13.heap.size, 0, none⟩ (.pointer u'))) := fun u' w' ht' hn' => by
                        have hb' := hb.nx hn'
                        refine ⟨hb'.at0 (Nx.refl w'), hb'.frozen 0, by omega, by omega, u', hb'.set 0 _, ?_, (hnx.trans hn').set _ 0 _ (Nat.le_refl _)⟩
                        rw [hof]
                        exact ht'.store hb' (by decide) 0 _
                      have HXC : Hid (xs.length ≤ 200 ∧ C.length ≤ 400) := ⟨HXL.out, HC.out.1⟩
                      cases hg : p.g with
                      | true =>
                        rw [hg] at x2
                        have DR := Lib.hid (tdrop_any wr.drew (.agg #[.pointer u]) _ p.k (ht.nx (Nx.drew (Nx.refl wr))) (by have := HXC.out; omega))
                        have ha : actP (acts xs (C.take j)) p = era p.k (acts xs (C.take j)) := by unfold actP; rw [if_pos hg]
                        rw [ha] at FIN
                        clear hb ht hnx hh hof hol hsh hi ha hbl hb13 KP
                        go_wp2_with fail
                        go_region_with (go_at_call 14; refine DR.out.mono ?_; rintro e w' ⟨r, rfl, ht', hn'⟩; obtain ⟨u', rfl⟩ := ht'.agg; obtain ⟨g1, g2, g3, g4⟩ := FIN.out u' w' ht' ((Nx.drew (Nx.refl wr)).trans hn'); have G4 := Lib.hid g4; clear g4 ht')
                        all_goals
                          clear x0 x1 c3
                          go_wp2
                          go_roundg (gk - 1)
                          case measure => exact g3
                          case rel => exact ⟨j + 1, by push_cast; rfl, G4⟩
                      | false =>
                        rw [hg] at x2
                        have PT := Lib.hid (tput_any wr.drew (.agg #[.pointer u]) _ p.k p.v (ht.nx (Nx.drew (Nx.refl wr))) (by have := HXC.out; omega) hsh.1 hsh.2)
                        have ha : actP (acts xs (C.take j)) p = ins p.k p.v (acts xs (C.take j)) := by unfold actP; rw [if_neg (by rw [hg]; decide)]
                        rw [ha] at FIN
                        clear hb ht hnx hh hof hol hsh hi ha hbl hb13 KP
                        go_wp2_with fail
                        go_region_with (go_at_call 10; refine PT.out.mono ?_; rintro e w' ⟨r, rfl, ht', hn'⟩; obtain ⟨u', rfl⟩ := ht'.agg; obtain ⟨g1, g2, g3, g4⟩ := FIN.out u' w' ht' ((Nx.drew (Nx.refl wr)).trans hn'); have G4 := Lib.hid g4; clear g4 ht')
                        all_goals
                          clear x0 x1 c3
                          go_wp2
                          go_roundg (gk - 1)
                          case measure => exact g3
                          case rel => exact ⟨j + 1, by push_cast; rfl, G4⟩
                  · have e2 : decide ((j : Int) < (C.length : Int)) = false := by simpa using hlt
                    have e3 : decide (j < C.length) = false := by simpa using hlt
                    have g14 := G13.out.nx hnx
                    have CT := Lib.hid (tcut_any wr _ xs key g14.g.t11 (by have := HXL.out; omega))
                    have k11 := g14.g.b11.at0 (Nx.refl wr)
                    rw [List.take_of_length_le (by omega), HC.out.2.2] at ht
                    have B20 := Lib.hid hb
                    have T20 := Lib.hid ht
                    have G14 := Lib.hid g14
                    clear hb ht hnx hh hi hlt g14
                    go_wp2_with fail
                    refine CT.out.mono ?_
                    rintro e w15 ⟨a, b, rfl, ha, hb, hn15⟩
                    obtain ⟨va, rfl⟩ := ha.agg
                    obtain ⟨vb, rfl⟩ := hb.agg
                    obtain ⟨W16, hW16⟩ : ∃ W16, (w15.alloc (.cells #[.pointer va] 24)).alloc (.cells #[.pointer vb] 24) = W16 := ⟨_, rfl⟩
                    have n16 : Nx w15 W16 := by rw [← hW16]; exact ((Nx.refl _).alloc _).alloc _
                    have b22 : BlkIs W16 w15.heap.size 24 #[.pointer va] := by rw [← hW16]; exact (box_blk w15 _ _).nx ((Nx.refl _).alloc _)
                    have b23 : BlkIs W16 (w15.heap.size + 1) 24 #[.pointer vb] := by
                      rw [← hW16]
                      have := box_blk (w15.alloc (.cells #[.pointer va] 24)) (.pointer vb) 24
                      rwa [World.size_alloc] at this
                    obtain ⟨ps, hps⟩ : ∃ ps, xs.take (place key xs) = ps := ⟨_, rfl⟩
                    obtain ⟨qs, hqs⟩ : ∃ qs, xs.drop (place key xs) = qs := ⟨_, rfl⟩
                    rw [hps] at ha
                    rw [hqs] at hb
                    have hpq : ps ++ qs = xs := by rw [← hps, ← hqs]; exact List.take_append_drop _ _
                    have hpl : ps.length ≤ 200 ∧ qs.length ≤ 200 := by have h1 := congrArg List.length hpq; rw [List.length_append] at h1; have := HXL.out; omega
                    have CM : Hid (∀ a0 : Act, a0.tmps.size = 203 → a0.eval (.tmp 22) = .pointer (some ⟨w15.heap.size, 0, none⟩) → a0.eval (.tmp 23) = .pointer (some ⟨w15.heap.size + 1, 0, none⟩) → CSc (rops Try.f5 25) a0 W16 w15.heap.size (w15.heap.size + 1) va vb ps qs) := fun a0 q1 q2 q3 =>
                      { hops := rfl, hz := q1, z22 := q2, z23 := q3, b22 := b22, t22 := ha.nx n16, b23 := b23, t23 := hb.nx n16, psn := by omega, qsn := by omega }
                    have HPQ := Lib.hid hpq
                    have G16 : Hid (G4 w w4.heap.size u11 xs v13 w11.heap.size u17 ys (.slice A19 (chg xs ys).length c19) W16 ∧ BlkIs W16 w13.heap.size 24 #[.pointer u] ∧ Tb W16 (.agg #[.pointer u]) ys) := ⟨G14.out.nx (hn15.trans n16), B20.out.nx (hn15.trans n16), T20.out.nx (hn15.trans n16)⟩
                    clear CT ha hb hn15 n16 b22 b23 hps hqs hpq hpl k11 G14 B20 T20
                    go_wp2_with fail
                    refine rgScL (CM.out _ rfl rfl rfl) ?_
                    intro x151 x152 x153 x154 x155 x156 x157 x158 x159 x24 W17 r24 n17
                    rw [← List.map_append, HPQ.out] at r24
                    have g17 := G16.out.1.nx n17
                    have k11 := g17.g.b11.at0 (Nx.refl W17)
                    have PT := Lib.hid (tput_any W17 _ xs key val g17.g.t11 (by have := HXL.out; omega) HKL.out.1 HKL.out.2.1)
                    have G17 : Hid (G4 w w4.heap.size u11 xs v13 w11.heap.size u17 ys (.slice A19 (chg xs ys).length c19) W17 ∧ BlkIs W17 w13.heap.size 24 #[.pointer u] ∧ Tb W17 (.agg #[.pointer u]) ys) := ⟨g17, G16.out.2.1.nx n17, G16.out.2.2.nx n17⟩
                    have R24 := Lib.hid r24
                    clear CM r24 n17 g17 G16 hW16
                    go_wp2_with fail
                    refine PT.out.mono ?_
                    rintro e w18 ⟨T18, rfl, -, hn18⟩
                    have g18 := G17.out.1.nx hn18
                    have k12 := g18.g.b11.at0 (Nx.refl w18)
                    have DR := Lib.hid (tdrop_any w18 _ xs key g18.g.t11 (by have := HXL.out; omega))
                    have G18 : Hid (G4 w w4.heap.size u11 xs v13 w11.heap.size u17 ys (.slice A19 (chg xs ys).length c19) w18 ∧ BlkIs w18 w13.heap.size 24 #[.pointer u] ∧ Tb w18 (.agg #[.pointer u]) ys ∧ Rd w18 x24 (xs.map prOf)) := ⟨g18, G17.out.2.1.nx hn18, G17.out.2.2.nx hn18, R24.out.nx hn18⟩
                    clear PT hn18 g18 G17 R24 k11
                    go_wp2_with fail
                    refine DR.out.mono ?_
                    rintro e w19 ⟨T19, rfl, -, hn19⟩
                    have g19 := G18.out.1.nx hn19
                    have k13 := g19.g.b11.at0 (Nx.refl w19)
                    have PT := Lib.hid (tput_any w19 _ xs key val g19.g.t11 (by have := HXL.out; omega) HKL.out.1 HKL.out.2.1)
                    have G19 : Hid (G4 w w4.heap.size u11 xs v13 w11.heap.size u17 ys (.slice A19 (chg xs ys).length c19) w19 ∧ BlkIs w19 w13.heap.size 24 #[.pointer u] ∧ Tb w19 (.agg #[.pointer u]) ys ∧ Rd w19 x24 (xs.map prOf)) := ⟨g19, G18.out.2.1.nx hn19, G18.out.2.2.1.nx hn19, G18.out.2.2.2.nx hn19⟩
                    clear DR hn19 g19 G18 k12
                    go_wp2_with fail
                    refine PT.out.mono ?_
                    rintro e w20 ⟨T20, rfl, ht20, hn20⟩
                    have GT := Lib.hid (tget_any w20 _ _ key ht20)
                    rw [look_put G19.out.1.g.t11.srt] at GT
                    have G20 : Hid (G4 w w4.heap.size u11 xs v13 w11.heap.size u17 ys (.slice A19 (chg xs ys).length c19) w20 ∧ BlkIs w20 w13.heap.size 24 #[.pointer u] ∧ Tb w20 (.agg #[.pointer u]) ys ∧ Rd w20 x24 (xs.map prOf)) := ⟨G19.out.1.nx hn20, G19.out.2.1.nx hn20, G19.out.2.2.1.nx hn20, G19.out.2.2.2.nx hn20⟩
                    clear PT ht20 hn20 G19 k13
                    unfold getV at GT
                    go_wp2_with fail
                    refine GT.out.mono ?_
                    rintro e w21 ⟨rfl, hn21⟩
                    have g21 := G20.out.1.nx hn21
                    have CM : Hid (∀ a0 : Act, a0.tmps.size = 203 → a0.eval (.tmp 11) = .pointer (some ⟨w4.heap.size, 0, none⟩) → a0.eval (.tmp 17) = .pointer (some ⟨w11.heap.size, 0, none⟩) → a0.eval (.tmp 20) = .pointer (some ⟨w13.heap.size, 0, none⟩) → a0.eval (.tmp 24) = x24 → a0.eval (.tmp 13) = v13 → a0.eval (.tmp 26) = .bool true → a0.eval (.tmp 25) = .string (S val) → a0.eval (.tmp 4) = .string (S val) → CSd (rops Try.f5 29) a0 w21 w4.heap.size w11.heap.size w13.heap.size u11 u17 u x24 v13 val xs ys) := fun a0 q1 q2 q3 q4 q5 q6 q7 q8 q9 =>
                      { hops := rfl, hz := q1, z11 := q2, z17 := q3, z20 := q4, z24 := q5, z13 := q6, z26 := q7, z25 := q8, z4 := q9, b11 := g21.g.b11, t11 := g21.g.t11, b17 := g21.b17, t17 := g21.t17, b20 := G20.out.2.1.nx hn21, t20 := G20.out.2.2.1.nx hn21, xsn := by have := HXL.out; omega, ysn := by have := HYL.out; omega, r24 := G20.out.2.2.2.nx hn21, r13 := g21.g.r13 }
                    have N21 : Hid (Nx w w21) := g21.g.n
                    clear GT hn21 g21 G20
                    go_wp2_with fail
                    refine rgSdL (CM.out _ rfl rfl rfl rfl rfl rfl rfl rfl rfl) ?_
                    intro x176 x177 x178 x179 x180 x181 x182 x183 x184 x185 x186 x187 x188 x189 x190 x191 x192 x193 x194 x195 x196 x197 x198 x199 x200 x201 x202 W22 n22
                    have N22 : Hid (Nx w W22) := N21.out.trans n22
                    clear CM n22
                    go_wp2
                    go_ret
                    exact ⟨rfl, N22.out⟩
          · have d7 : decide ((n2 : Int) > 200) = true := by simp; omega
            have d8 : decide (200 < (n2 : Int)) = true := by simp; omega
            have d9 : decide (200 < n2) = true := by simp; omega
            go_wp2
            go_ret
            exact ⟨rfl, N3.out⟩
        · have d4 : decide ((val.length : Int) > 5000) = true := by simp; omega
          have d5 : decide (5000 < (val.length : Int)) = true := by simp; omega
          have d6 : decide (5000 < val.length) = true := by simp; omega
          go_wp2
          go_ret
          exact ⟨rfl, N3.out⟩
      · have d1 : decide ((key.length : Int) > 5000) = true := by simp; omega
        have d2 : decide (5000 < (key.length : Int)) = true := by simp; omega
        have d3 : decide (5000 < key.length) = true := by simp; omega
        go_wp2
        go_ret
        exact ⟨rfl, N3.out⟩
end Go.Proofs.Ytekcphpeaoaaaaa

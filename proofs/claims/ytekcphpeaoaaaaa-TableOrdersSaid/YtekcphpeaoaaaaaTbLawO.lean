/- Package table: the walk of TableOrders. Made by wip/tools/gen_lawo.py. -/
import Derived.Test.YtekcphpeaoaaaaaTbOrd
import Derived.Test.YtekcphpeaoaaaaaTbMade
namespace Go.Proofs.Ytekcphpeaoaaaaa
open Go.RowKit Go.Shelf
set_option linter.unusedVariables false

attribute [local go_sem] Oper.semAt_some

/-- The table stands in a box, and its pairs in a slice. -/
structure G2 (w : World) (B5 : Nat) (u5 : Option Addr) (xs : List KV) (v7 : Value) (W : World) : Prop where
  n : Nx w W
  b5 : BlkIs W B5 24 #[.pointer u5]
  t5 : Tb W (.agg #[.pointer u5]) xs
  r7 : RdC W v7 (xs.map prOf)
theorem G2.nx {w : World} {B5 : Nat} {u5 : Option Addr} {xs : List KV} {v7 : Value} {W W' : World} (h : G2 w B5 u5 xs v7 W) (k : Nx W W') : G2 w B5 u5 xs v7 W' :=
  ⟨h.n.trans k, h.b5.nx k, h.t5.nx k, h.r7.nx k⟩
theorem nextV_at {key : Str} {xs : List KV} (hs : Srt xs) (m : Nat) (hm : m = place key xs + if hit key xs then 1 else 0) : next key xs = (xs.drop m).head? := by
  have h2 := place_drop1 (k := key) hs _ rfl
  rw [← hm] at h2
  have h1 : ∀ x ∈ xs.take m, lt key x.1 = false := fun x hx => by
    have h3 := place_below key xs
    by_cases hh : hit key xs = true
    · rw [if_pos hh] at hm
      have hl : place key xs < xs.length := by
        rw [hit_at] at hh
        apply Classical.byContradiction
        intro hn
        rw [dif_neg hn] at hh
        cases hh
      rw [hm, List.take_succ_eq_append_getElem hl] at hx
      rcases List.mem_append.1 hx with hx | hx
      · exact lt_asymm (h3 x hx)
      · rw [hit_at, dif_pos hl] at hh
        rw [List.mem_singleton.1 hx, of_decide_eq_true hh, lt_irrefl]
    · rw [if_neg hh] at hm
      rw [hm] at hx
      exact lt_asymm (h3 x hx)
  unfold next
  conv => lhs; rw [← List.take_append_drop m xs]
  rw [List.find?_append]
  have h3 : (xs.take m).find? (fun e => lt key e.1) = none := List.find?_eq_none.2 fun x hx => by rw [h1 x hx]; decide
  rw [h3]
  cases hd : xs.drop m with
  | nil => rfl
  | cons y r =>
    rw [hd] at h2
    rw [List.find?_cons, h2 y List.mem_cons_self]
    rfl
theorem heads_top {w : World} {T' : Value} {xs : List KV} (h : Tb w T' xs) {e : KV} {rest : List KV} (hn : nodes xs = e :: rest) : ∀ x ∈ rest, top e.1 x.1 = true := by
  obtain ⟨u, t, _, _, hh, rfl, hs⟩ := h
  rw [← pre_nodes t hs hh] at hn
  cases t with
  | nil => cases hn
  | nd l k v r =>
    obtain ⟨a1, a2, _, _⟩ := hh
    have hn : (k, v) :: (l.pre ++ r.pre) = e :: rest := hn
    simp only [List.cons.injEq] at hn
    obtain ⟨rfl, rfl⟩ := hn
    intro x hx
    rcases List.mem_append.1 hx with hx | hx
    · exact a1 x ((pre_perm l).mem_iff.1 hx)
    · exact a2 x ((pre_perm r).mem_iff.1 hx)
theorem RdC.from {w : World} {b o c : Nat} {xs : List KV} (h : RdC w (.slice (some ⟨b, o, none⟩) xs.length c) (xs.map prOf)) (n : Nat) (hn : n ≤ xs.length) : RdC w (.slice (some ⟨b, o + n * 3, none⟩) (xs.length - n) (c - n)) ((xs.drop n).map prOf) := by
  have h2 : RdC w (.slice (some ⟨b, o, none⟩) (xs.map prOf).length c) (xs.map prOf) := by rw [List.length_map]; exact h
  have h3 := RdC.dropN h2 n (by rw [List.length_map]; exact hn) ⟨b, o + n * 3, none⟩ (c - n) (.inl ⟨rfl, rfl⟩)
  rw [List.length_map, ← List.map_drop] at h3
  exact h3
theorem highest_nodes (w : World) (T' : Value) (xs : List KV) (A : Option Addr) (c : Nat) (ht : Tb w T' xs) (hne : xs ≠ []) (hn : xs.length ≤ 100000000) (hr : RdC w (.slice A xs.length c) ((nodes xs).map prOf)) :
    Calls Try.prog 35 #[.slice A xs.length c] w fun e w' => e = .returned (.bool true) ∧ Nx w w' := by
  have hl : 0 < ((nodes xs).map prOf).length := by rw [List.length_map, nodes_length]; exact List.length_pos_iff.2 hne
  obtain ⟨b, o, rfl⟩ := hr.addr hl
  have hsh := ht.shorts
  have hp := ht.perm
  cases hnd : nodes xs with
  | nil => rw [hnd] at hl; cases hl
  | cons e rest =>
    have htop := heads_top ht hnd
    have hln : xs.length = (prOf e :: rest.map prOf).length := by rw [← nodes_length xs, hnd]; simp
    rw [hnd] at hr hp
    rw [hln] at hr ⊢
    refine highest_any w b o c (prOf e) (rest.map prOf) hr (fun p hpm => ?_) (fun p hpm => ?_) (by rw [← hln]; exact hn)
    · have : p ∈ (e :: rest).map prOf := hpm
      obtain ⟨x, hx, rfl⟩ := List.mem_map.1 this
      exact (hsh x (hp.mem_iff.1 hx)).1
    · obtain ⟨x, hx, rfl⟩ := List.mem_map.1 hpm
      exact htop x hx
theorem drewN_add (w : World) (a b : Nat) : (w.drewN a).drewN b = w.drewN (a + b) := by simp [World.drewN, Nat.add_assoc]

set_option maxRecDepth 100000 in
set_option maxHeartbeats 8000000 in
theorem lawO_any (w : World) (A0 : Option Addr) (n0 c0 : Nat) (l0 : List Pr) (key : Str) (h0 : Rd w (.slice A0 n0 c0) l0) (e0 : l0.length = n0) (m0 : n0 ≤ 9223372036854775807) (i0 : ∀ p ∈ l0, PrIn p) (hk : key.length ≤ 9223372036854775807) :
    Calls Try.prog 6 #[.slice A0 n0 c0, .string (S key)] w fun e w' => e = .returned (.bool true) ∧ Nx w w' := by
  have LV := Lib.hid (lives_any w)
  have LP := Lib.hid (fun W hW => light_any W A0 n0 c0 l0 (h0.nx hW) e0 m0 i0 200 5000 (by decide) (by decide))
  have H0 := Lib.hid h0
  subst e0
  clear h0 i0 m0
  go_enter Try.func6, Try.ntmps6
  go_wp2_with fail
  refine LV.out.mono ?_
  rintro e w1 ⟨rfl, hn1⟩
  have N1 := Lib.hid hn1
  have LP1 := Lib.hid (LP.out w1 hn1)
  clear LV LP hn1
  go_wp2_with fail
  refine LP1.out.mono ?_
  rintro e w2 ⟨B, rfl, hB, hn2⟩
  have N2 := Lib.hid (N1.out.trans hn2)
  clear LP1 hn2
  cases B with
  | false =>
    clear hB
    go_wp2
    go_ret
    exact ⟨rfl, N2.out⟩
  | true =>
    have HL := Lib.hid (hB rfl)
    clear hB
    have hsz := S_size key
    by_cases hkl : key.length ≤ 5000
    · have d1 : decide ((key.length : Int) > 5000) = false := by simp; omega
      have d2 : decide (5000 < (key.length : Int)) = false := by simp; omega
      have d3 : decide (5000 < key.length) = false := by simp; omega
      have MD := Lib.hid (made_any w2 _ l0 (H0.out.nx N2.out) (HL.out.short (by decide)) (by have := HL.out.1; omega))
      clear hkl
      go_wp2_with fail
      refine MD.out.mono ?_
      rintro e w3 ⟨a, b, rfl, ha, hb, hn3⟩
      obtain ⟨u5, rfl⟩ := ha.agg
      obtain ⟨A6, n6, c6, rfl⟩ := hb.agg
      obtain ⟨xs, hxs⟩ : ∃ xs, acts [] l0 = xs := ⟨_, rfl⟩
      have hxl : xs.length ≤ 200 := by
        have h1 := acts_len l0 []
        have h2 := HL.out.1
        rw [hxs] at h1
        simp at h1
        omega
      rw [hxs] at ha
      obtain ⟨W4, hW4⟩ : ∃ W4, (w3.alloc (.cells #[.pointer u5] 24)).alloc (.cells #[.slice A6 n6 c6] 36) = W4 := ⟨_, rfl⟩
      have n4 : Nx w3 W4 := by rw [← hW4]; exact ((Nx.refl _).alloc _).alloc _
      have b5 : BlkIs W4 w3.heap.size 24 #[.pointer u5] := by rw [← hW4]; exact (box_blk w3 _ _).nx ((Nx.refl _).alloc _)
      have t5 := ha.nx n4
      have N4 : Hid (Nx w W4) := (N2.out.trans hn3).trans n4
      have CM : Hid (∀ a0 : Act, a0.tmps.size = 155 → a0.eval (.tmp 5) = .pointer (some ⟨w3.heap.size, 0, none⟩) → COa (rops Try.f6 6) a0 W4 w3.heap.size u5 xs) := fun a0 q1 q2 =>
        { hops := rfl, hz := q1, z5 := q2, b5 := b5, t5 := t5, xsn := by omega }
      have HXL := Lib.hid hxl
      have BT : Hid (BlkIs W4 w3.heap.size 24 #[.pointer u5] ∧ Tb W4 (.agg #[.pointer u5]) xs) := ⟨b5, t5⟩
      clear MD ha hb hxs hxl n4 b5 t5 hn3
      go_wp2_with fail
      refine rgOaL (CM.out _ rfl rfl) ?_
      intro x31 x32 x33 x34 x35 x7 W5 r7p n5
      obtain ⟨r7, p7⟩ := r7p
      obtain ⟨A7, c7, e7⟩ := r7.rd.len
      rw [List.length_map] at e7
      subst e7
      have HP7 : Hid ((A7 = none ∧ xs.length = 0 ∧ c7 = 0) ∨ ∃ b o, A7 = some ⟨b, o, none⟩) := by
        rcases p7 with e | ⟨b, o, n, c, e⟩
        · simp only [Value.slice.injEq] at e; exact .inl e
        · simp only [Value.slice.injEq] at e; exact .inr ⟨b, o, e.1⟩
      have G := Lib.hid (show G2 w w3.heap.size u5 xs (.slice A7 xs.length c7) W5 from ⟨N4.out.trans n5, BT.out.1.nx n5, BT.out.2.nx n5, r7⟩)
      clear CM r7 p7 n5 BT N4 hW4
      go_wp2
      go_loopg [8] xs.length (fun n p8 wr => ∃ (i : Nat), p8 = .int .i64 (i : Int) ∧ Hid (i + n = xs.length ∧ Nx W5 wr))
      case atStart => exact ⟨0, rfl, by omega, Nx.refl _⟩
      case round =>
        obtain ⟨i, rfl, hh⟩ := hrel
        obtain ⟨hi, hnx⟩ := hh.out
        have GR := Lib.hid (G.out.nx hnx)
        have HNX := Lib.hid hnx
        by_cases hlt : i < xs.length
        · rcases GR.out.r7.rd with ⟨_, _, e, e0⟩ | ⟨ba, oa, c3, ea, hca⟩
          · rw [List.map_eq_nil_iff] at e0; rw [e0] at hlt; cases hlt
          · simp only [Value.slice.injEq] at ea
            obtain ⟨rfl, -, rfl⟩ := ea
            have x0 := (Rd.cells hca i (by rw [List.length_map]; exact hlt)).1
            rw [List.getElem_map] at x0
            replace x0 : wr.cell? ⟨ba, oa + i * 3, none⟩ = some (.string (S xs[i].1)) := x0
            have hpl := place_at GR.out.t5.srt i hlt
            obtain ⟨kb, hkb⟩ : ∃ kb, xs[i].1 = kb := ⟨_, rfl⟩
            rw [hkb] at x0 hpl
            have hw : IntKind.i64.wrap ((i : Int) + 1) = (i : Int) + 1 := IntWalk.i64_in _ (by have := HXL.out; omega)
            have e2 : decide ((i : Int) < (xs.length : Int)) = true := by simp; omega
            have e3 : decide (i < xs.length) = true := by simp; omega
            have NXT : Hid (gk - 1 < gk ∧ i + 1 + (gk - 1) = xs.length) := ⟨by omega, by omega⟩
            by_cases hz : i = 0
            · have CM : Hid (∀ a0 : Act, a0.tmps.size = 155 → a0.eval (.tmp 5) = .pointer (some ⟨w3.heap.size, 0, none⟩) → a0.eval (.tmp 7) = .slice (some ⟨ba, oa, none⟩) xs.length c7 → a0.eval (.tmp 8) = .int .i64 (i : Int) → COd (rops Try.f6 10) a0 wr w3.heap.size ba oa xs.length c7 i u5 xs kb) := fun a0 q1 q2 q3 q4 =>
                { hops := rfl, hz := q1, z5 := q2, z7 := q3, z8 := q4, b5 := GR.out.b5, t5 := GR.out.t5, xsn := by have := HXL.out; omega, i1 := hlt, ki := x0, pl := hpl, i0 := hz }
              clear hca x0 hpl hh hi hnx hz hkb hlt
              go_wp2_with fail
              refine rgOdL (CM.out _ rfl rfl rfl rfl) ?_
              intro x42 x43 x44 x45 x46 x47 x48 x49 x50 x51 x52 x53 x54 x55 x56 x57 x58 x59 x60 x61 x62 x63 x64 x65 x66 x67 W6 n6
              have N6 : Hid (Nx W5 W6) := HNX.out.trans n6
              clear CM n6
              go_wp2
              go_roundg (gk - 1)
              case measure => exact NXT.out.1
              case rel => exact ⟨i + 1, by push_cast; rfl, NXT.out.2, N6.out⟩
            · obtain ⟨j, hj⟩ : ∃ j, i = j + 1 := ⟨i - 1, by omega⟩
              have hjl : j < xs.length := by omega
              have z0 := (Rd.cells hca j (by rw [List.length_map]; exact hjl)).1
              rw [List.getElem_map] at z0
              replace z0 : wr.cell? ⟨ba, oa + j * 3, none⟩ = some (.string (S xs[j].1)) := z0
              have hlk : lt xs[j].1 xs[i].1 = true := List.pairwise_iff_getElem.1 GR.out.t5.srt j i hjl hlt (by omega)
              obtain ⟨ka, hka⟩ : ∃ ka, xs[j].1 = ka := ⟨_, rfl⟩
              rw [hka] at z0 hlk
              rw [hkb] at hlk
              have CM : Hid (∀ a0 : Act, a0.tmps.size = 155 → a0.eval (.tmp 5) = .pointer (some ⟨w3.heap.size, 0, none⟩) → a0.eval (.tmp 7) = .slice (some ⟨ba, oa, none⟩) xs.length c7 → a0.eval (.tmp 8) = .int .i64 (i : Int) → COc (rops Try.f6 10) a0 wr w3.heap.size ba oa xs.length c7 i j u5 xs ka kb) := fun a0 q1 q2 q3 q4 =>
                { hops := rfl, hz := q1, z5 := q2, z7 := q3, z8 := q4, b5 := GR.out.b5, t5 := GR.out.t5, xsn := by have := HXL.out; omega, i1 := hlt, ki := x0, pl := hpl, j1 := hjl, kj := z0, lk := hlk, ij := hj, mm := by have := HXL.out; omega }
              clear hca x0 z0 hpl hh hi hnx hz hka hkb hlk hj hlt hjl
              go_wp2_with fail
              refine rgOcL (CM.out _ rfl rfl rfl rfl) ?_
              intro x42 x43 x44 x45 x46 x47 x48 x49 x50 x51 x52 x53 x54 x55 x56 x57 x58 x59 x60 x61 x62 x63 x64 x65 x66 x67 W6 n6
              have N6 : Hid (Nx W5 W6) := HNX.out.trans n6
              clear CM n6
              go_wp2
              go_roundg (gk - 1)
              case measure => exact NXT.out.1
              case rel => exact ⟨i + 1, by push_cast; rfl, NXT.out.2, N6.out⟩
        · have e2 : decide ((i : Int) < (xs.length : Int)) = false := by simp; omega
          have e3 : decide (i < xs.length) = false := by simp; omega
          have PL := Lib.hid (tplace_any wr _ xs key GR.out.t5 (by have := HXL.out; omega))
          have d7 := GR.out.b5.at0 (Nx.refl wr)
          clear hh hi hnx hlt
          go_wp2_with fail
          refine PL.out.mono ?_
          rintro e w6 ⟨rfl, hn6⟩
          have g6 := GR.out.nx hn6
          have CM : Hid (∀ a0 : Act, a0.tmps.size = 155 → a0.eval (.tmp 5) = .pointer (some ⟨w3.heap.size, 0, none⟩) → a0.eval (.tmp 1) = .string (S key) → COb (rops Try.f6 13) a0 w6 w3.heap.size u5 xs key) := fun a0 q1 q2 q3 =>
            { hops := rfl, hz := q1, z5 := q2, z1 := q3, b5 := g6.b5, t5 := g6.t5, xsn := by have := HXL.out; omega }
          have G6 := Lib.hid g6
          obtain ⟨pl, hpl⟩ : ∃ pl, place key xs = pl := ⟨_, rfl⟩
          have HPL := Lib.hid hpl
          have hple : pl ≤ xs.length := by rw [← hpl]; exact place_le key xs
          rw [hpl]
          clear PL hn6 g6 d7 e2 e3 GR G HNX hpl
          go_wp2_with fail
          refine rgObL (CM.out _ rfl rfl rfl) ?_
          intro x72 x73 x74 x75 x76 x10 W7 r10 n7
          rw [HPL.out] at r10
          have g7 := G6.out.nx n7
          have NX := Lib.hid (tnext_any W7 _ xs key g7.t5 (by have := HXL.out; omega))
          have d7 := g7.b5.at0 (Nx.refl W7)
          have G7 := Lib.hid g7
          have R10 := Lib.hid r10
          clear CM n7 g7 r10 G6
          go_wp2_with fail
          refine NX.out.mono ?_
          rintro e w8 ⟨rfl, hn8⟩
          have g8 := G7.out.nx hn8
          have R8 := Lib.hid (R10.out.nx hn8)
          have G8 := Lib.hid g8
          have hla := look_at key xs
          have hha := hit_at key xs
          have hna := nextV_at (key := key) G8.out.t5.srt _ rfl
          rw [HPL.out] at hla hha hna
          clear NX hn8 g8 d7 R10 G7
          by_cases hlt : pl < xs.length
          · rw [dif_pos hlt] at hla hha
            by_cases hk : xs[pl].1 = key
            · rw [if_pos hk] at hla
              rw [decide_eq_true hk] at hha
              rw [hha, if_pos rfl] at hna
              obtain ⟨m, hm⟩ : ∃ m, pl + 1 = m := ⟨_, rfl⟩
              rw [hm] at hna
              by_cases hml : m < xs.length
              · have hnx : next key xs = some xs[m] := by rw [hna, List.drop_eq_getElem_cons hml]; rfl
                rw [hnx]
                obtain ⟨ev, hev⟩ : ∃ ev, xs[m] = ev := ⟨_, rfl⟩
                rw [hev]
                clear hnx hna
                obtain ⟨W9, hW9⟩ : ∃ W9, w8.alloc (.cells #[.string (S ev.1), .string (S ev.2), .bool false] 40) = W9 := ⟨_, rfl⟩
                have n9 : Nx w8 W9 := by rw [← hW9]; exact (Nx.refl _).alloc _
                have b11 : BlkIs W9 w8.heap.size 40 #[.string (S ev.1), .string (S ev.2), .bool false] := by rw [← hW9]; exact BlkIs.new _ _ _
                have f0 := b11.frozen 0
                have f1 := b11.frozen 1
                have f2 := b11.frozen 2
                have y0 : W9.cell? ⟨w8.heap.size, 0, none⟩ = some (.string (S ev.1)) := by rw [b11.cell]; rfl
                have y1 : W9.cell? ⟨w8.heap.size, 1, none⟩ = some (.string (S ev.2)) := by rw [b11.cell]; rfl
                have y2 : W9.cell? ⟨w8.heap.size, 2, none⟩ = some (.bool false) := by rw [b11.cell]; rfl
                have s0 : W9.setCell ⟨w8.heap.size, 0, none⟩ (.string (S ev.1)) = W9 := by rw [← hW9]; simp [go_sem]
                have s1 : W9.setCell ⟨w8.heap.size, 1, none⟩ (.string (S ev.2)) = W9 := by rw [← hW9]; simp [go_sem]
                have s2 : W9.setCell ⟨w8.heap.size, 2, none⟩ (.bool false) = W9 := by rw [← hW9]; simp [go_sem]
                have g9 := G8.out.nx n9
                have d7 := g9.b5.at0 (Nx.refl W9)
                have GT := Lib.hid (tget_any W9 _ xs key g9.t5)
                rw [hla] at GT
                have G9 := Lib.hid g9
                have B11 := Lib.hid b11
                have R9 := Lib.hid (R8.out.nx n9)
                clear n9 g9 b11 hla hha
                unfold nextV prV prOf
                go_wp2_with fail
                refine GT.out.mono ?_
                rintro e w10 ⟨rfl, hn10⟩
                have g10 := G9.out.nx hn10
                have d8 := g10.b5.at0 (Nx.refl w10)
                have SZ := Lib.hid (tsize_any w10 _ xs g10.t5)
                have G10 := Lib.hid g10
                have B12 := Lib.hid (B11.out.nx hn10)
                have R11 := Lib.hid (R9.out.nx hn10)
                clear GT hn10 g10 d7 G9 B11 R9 hW9 f0 f1 f2 y0 y1 y2 s0 s1 s2
                unfold getV
                go_wp2_with fail
                refine SZ.out.mono ?_
                rintro e w11 ⟨rfl, hn11⟩
                have G11 := Lib.hid (G10.out.nx hn11)
                have B13 := Lib.hid (B12.out.nx hn11)
                have R12 := Lib.hid (R11.out.nx hn11)
                clear SZ hn11 d8 G10 B12 R11
                obtain ⟨hc1, hc2⟩ : xs.length ≤ c7 ∧ c7 ≤ 9223372036854775807 := by
                  obtain ⟨A', c', e, h1, h2, _⟩ := G11.out.r7
                  rw [List.length_map] at e h1
                  simp only [Value.slice.injEq] at e
                  obtain ⟨_, _, rfl⟩ := e
                  exact ⟨h1, h2⟩
                have g1 : (pl : Int) ≤ (xs.length : Int) := by omega
                have g2 : (xs.length : Int) ≤ (c7 : Int) := by omega
                have g3 : (0 : Int) ≤ (pl : Int) := by omega
                have g4 : (pl : Int) ≤ (c7 : Int) := by omega
                obtain ⟨b7, o7, rfl⟩ : ∃ b o, A7 = some ⟨b, o, none⟩ := by
                  rcases HP7.out with ⟨_, e, _⟩ | h
                  · exact absurd e (by omega)
                  · exact h
                have hc : ¬ c7 = pl := by omega
                have PS := Lib.hid (pairs_any w11 x10 _ ((xs.drop pl).map prOf) _ R12.out.rd (RdC.from G11.out.r7 pl (by omega)).rd (by rw [List.length_map, List.length_drop]; have := HXL.out; omega))
                rw [decide_eq_true rfl] at PS
                clear R12
                go_wp2_with fail
                refine PS.out.mono ?_
                rintro e w12 ⟨rfl, hn12⟩
                have g12 := G11.out.nx hn12
                have b12 := B13.out.nx hn12
                have d8 := g12.b5.at0 (Nx.refl w12)
                have y0 : w12.cell? ⟨w8.heap.size, 0, none⟩ = some (.string (S ev.1)) := by rw [b12.cell]; rfl
                have y1 : w12.cell? ⟨w8.heap.size, 1, none⟩ = some (.string (S ev.2)) := by rw [b12.cell]; rfl
                have y2 : w12.cell? ⟨w8.heap.size, 2, none⟩ = some (.bool false) := by rw [b12.cell]; rfl
                have hcells : ∀ i (hi : i < xs.length), w12.cell? ⟨b7, o7 + i * 3, none⟩ = some (.string (S xs[i].1)) ∧ w12.cell? ⟨b7, o7 + i * 3 + 1, none⟩ = some (.string (S xs[i].2)) ∧ w12.cell? ⟨b7, o7 + i * 3 + 2, none⟩ = some (.bool false) := fun i hi => g12.r7.key i hi
                obtain ⟨x0, -, -⟩ := hcells pl hlt
                have hse := S_eq xs[pl].1 key
                rw [decide_eq_true hk] at hse
                obtain ⟨z0, z1, z2⟩ := hcells m hml
                rw [hev] at z0 z1
                have hE := fun W => run_equal_pair W (prOf ev) (prOf ev)
                rw [decide_eq_true rfl] at hE
                unfold prV prOf at hE
                obtain ⟨kp, hkp⟩ : ∃ kp, xs[pl].1 = kp := ⟨_, rfl⟩
                rw [hkp] at x0 hse
                have e5 : decide ((pl : Int) < (xs.length : Int)) = true := by simp; omega
                have e6 : decide (pl < xs.length) = true := by simp; omega
                have e7 : (pl : Int) < (xs.length : Int) := by omega
                have hw9 : IntKind.i64.wrap ((pl : Int) + 1) = (m : Int) := by rw [IntWalk.i64_in _ (by have := HXL.out; omega)]; omega
                have e8 : (0 : Int) ≤ (m : Int) := by omega
                have e9 : (m : Int) < (xs.length : Int) := by omega
                have e10 : decide ((m : Int) < (xs.length : Int)) = true := by simp; omega
                have e11 : decide (m < xs.length) = true := by simp; omega
                have ND : Hid (∀ V, Nx w12 V → Calls Try.prog 29 #[.agg #[.pointer u5]] V (Ret fun r w' => Row w' V.heap.size r ((nodes xs).map prOf) ∧ Nx V w')) := fun V hV => tnodes_any V _ xs (g12.t5.nx hV) (by have := HXL.out; omega)
                have G12 := Lib.hid g12
                have HNE : Hid (xs ≠ []) := fun e => by rw [e] at hlt; cases hlt
                clear PS hn12 g12 b12 G11 B13 hcells
                go_wp2_with fail
                go_quiet (fail)
                go_wp2_with fail
                refine (ND.out _ ((Nx.refl w12).drewN _)).mono ?_
                rintro e w14 ⟨r, rfl, hrow, hn14⟩
                have N14 : Hid (Nx w12 w14) := ((Nx.refl w12).drewN _).trans hn14
                obtain ⟨A8, c8, rfl⟩ := own_slice hrow
                have hlen : ((nodes xs).map prOf).length = xs.length := by rw [List.length_map, nodes_length]
                have R14 := hrow.rdc
                rw [hlen] at R14 ⊢
                have HI := Lib.hid (highest_nodes w14 _ xs A8 c8 (G12.out.nx N14.out).t5 HNE.out (by have := HXL.out; omega) R14)
                have e12 : ((xs.length : Int) == 0) = false := by have := List.length_pos_iff.2 HNE.out; rw [beq_eq_false_iff_ne]; omega
                have e14 : ¬ xs = [] := HNE.out
                have e13 : ((xs.length : Int) == (xs.length : Int)) = true := by simp
                have N15 : Hid (Nx w w14) := (G12.out.nx N14.out).n
                clear ND hrow hn14 hlen R14
                go_wp2_with fail
                refine HI.out.mono ?_
                rintro e w15 ⟨rfl, hn15⟩
                have N16 : Hid (Nx w w15) := N15.out.trans hn15
                clear HI hn15
                go_wp2
                go_ret
                exact ⟨rfl, N16.out⟩
              · have hnx : next key xs = none := by rw [hna, List.drop_eq_nil_of_le (by omega)]; rfl
                rw [hnx]
                clear hnx hna
                obtain ⟨W9, hW9⟩ : ∃ W9, w8.alloc (.cells #[.string (S []), .string (S []), .bool false] 40) = W9 := ⟨_, rfl⟩
                have n9 : Nx w8 W9 := by rw [← hW9]; exact (Nx.refl _).alloc _
                have b11 : BlkIs W9 w8.heap.size 40 #[.string (S []), .string (S []), .bool false] := by rw [← hW9]; exact BlkIs.new _ _ _
                have f0 := b11.frozen 0
                have f1 := b11.frozen 1
                have f2 := b11.frozen 2
                have y0 : W9.cell? ⟨w8.heap.size, 0, none⟩ = some (.string (S [])) := by rw [b11.cell]; rfl
                have y1 : W9.cell? ⟨w8.heap.size, 1, none⟩ = some (.string (S [])) := by rw [b11.cell]; rfl
                have y2 : W9.cell? ⟨w8.heap.size, 2, none⟩ = some (.bool false) := by rw [b11.cell]; rfl
                have s0 : W9.setCell ⟨w8.heap.size, 0, none⟩ (.string (S [])) = W9 := by rw [← hW9]; simp [go_sem]
                have s1 : W9.setCell ⟨w8.heap.size, 1, none⟩ (.string (S [])) = W9 := by rw [← hW9]; simp [go_sem]
                have s2 : W9.setCell ⟨w8.heap.size, 2, none⟩ (.bool false) = W9 := by rw [← hW9]; simp [go_sem]
                have g9 := G8.out.nx n9
                have d7 := g9.b5.at0 (Nx.refl W9)
                have GT := Lib.hid (tget_any W9 _ xs key g9.t5)
                rw [hla] at GT
                have G9 := Lib.hid g9
                have B11 := Lib.hid b11
                have R9 := Lib.hid (R8.out.nx n9)
                clear n9 g9 b11 hla hha
                unfold nextV prV prOf
                go_wp2_with fail
                refine GT.out.mono ?_
                rintro e w10 ⟨rfl, hn10⟩
                have g10 := G9.out.nx hn10
                have d8 := g10.b5.at0 (Nx.refl w10)
                have SZ := Lib.hid (tsize_any w10 _ xs g10.t5)
                have G10 := Lib.hid g10
                have B12 := Lib.hid (B11.out.nx hn10)
                have R11 := Lib.hid (R9.out.nx hn10)
                clear GT hn10 g10 d7 G9 B11 R9 hW9 f0 f1 f2 y0 y1 y2 s0 s1 s2
                unfold getV
                go_wp2_with fail
                refine SZ.out.mono ?_
                rintro e w11 ⟨rfl, hn11⟩
                have G11 := Lib.hid (G10.out.nx hn11)
                have B13 := Lib.hid (B12.out.nx hn11)
                have R12 := Lib.hid (R11.out.nx hn11)
                clear SZ hn11 d8 G10 B12 R11
                obtain ⟨hc1, hc2⟩ : xs.length ≤ c7 ∧ c7 ≤ 9223372036854775807 := by
                  obtain ⟨A', c', e, h1, h2, _⟩ := G11.out.r7
                  rw [List.length_map] at e h1
                  simp only [Value.slice.injEq] at e
                  obtain ⟨_, _, rfl⟩ := e
                  exact ⟨h1, h2⟩
                have g1 : (pl : Int) ≤ (xs.length : Int) := by omega
                have g2 : (xs.length : Int) ≤ (c7 : Int) := by omega
                have g3 : (0 : Int) ≤ (pl : Int) := by omega
                have g4 : (pl : Int) ≤ (c7 : Int) := by omega
                obtain ⟨b7, o7, rfl⟩ : ∃ b o, A7 = some ⟨b, o, none⟩ := by
                  rcases HP7.out with ⟨_, e, _⟩ | h
                  · exact absurd e (by omega)
                  · exact h
                have hc : ¬ c7 = pl := by omega
                have PS := Lib.hid (pairs_any w11 x10 _ ((xs.drop pl).map prOf) _ R12.out.rd (RdC.from G11.out.r7 pl (by omega)).rd (by rw [List.length_map, List.length_drop]; have := HXL.out; omega))
                rw [decide_eq_true rfl] at PS
                clear R12
                go_wp2_with fail
                refine PS.out.mono ?_
                rintro e w12 ⟨rfl, hn12⟩
                have g12 := G11.out.nx hn12
                have b12 := B13.out.nx hn12
                have d8 := g12.b5.at0 (Nx.refl w12)
                have y0 : w12.cell? ⟨w8.heap.size, 0, none⟩ = some (.string (S [])) := by rw [b12.cell]; rfl
                have y1 : w12.cell? ⟨w8.heap.size, 1, none⟩ = some (.string (S [])) := by rw [b12.cell]; rfl
                have y2 : w12.cell? ⟨w8.heap.size, 2, none⟩ = some (.bool false) := by rw [b12.cell]; rfl
                have hcells : ∀ i (hi : i < xs.length), w12.cell? ⟨b7, o7 + i * 3, none⟩ = some (.string (S xs[i].1)) ∧ w12.cell? ⟨b7, o7 + i * 3 + 1, none⟩ = some (.string (S xs[i].2)) ∧ w12.cell? ⟨b7, o7 + i * 3 + 2, none⟩ = some (.bool false) := fun i hi => g12.r7.key i hi
                obtain ⟨x0, -, -⟩ := hcells pl hlt
                have hse := S_eq xs[pl].1 key
                rw [decide_eq_true hk] at hse
                obtain ⟨kp, hkp⟩ : ∃ kp, xs[pl].1 = kp := ⟨_, rfl⟩
                rw [hkp] at x0 hse
                have e5 : decide ((pl : Int) < (xs.length : Int)) = true := by simp; omega
                have e6 : decide (pl < xs.length) = true := by simp; omega
                have e7 : (pl : Int) < (xs.length : Int) := by omega
                have hw9 : IntKind.i64.wrap ((pl : Int) + 1) = (m : Int) := by rw [IntWalk.i64_in _ (by have := HXL.out; omega)]; omega
                have e8 : (0 : Int) ≤ (m : Int) := by omega
                have e10 : decide ((m : Int) < (xs.length : Int)) = false := by simp; omega
                have e11 : decide (m < xs.length) = false := by simp; omega
                have ND : Hid (∀ V, Nx w12 V → Calls Try.prog 29 #[.agg #[.pointer u5]] V (Ret fun r w' => Row w' V.heap.size r ((nodes xs).map prOf) ∧ Nx V w')) := fun V hV => tnodes_any V _ xs (g12.t5.nx hV) (by have := HXL.out; omega)
                have G12 := Lib.hid g12
                have HNE : Hid (xs ≠ []) := fun e => by rw [e] at hlt; cases hlt
                clear PS hn12 g12 b12 G11 B13 hcells
                go_wp2_with fail
                go_quiet (fail)
                go_wp2_with fail
                refine (ND.out _ ((Nx.refl w12).drewN _)).mono ?_
                rintro e w14 ⟨r, rfl, hrow, hn14⟩
                have N14 : Hid (Nx w12 w14) := ((Nx.refl w12).drewN _).trans hn14
                obtain ⟨A8, c8, rfl⟩ := own_slice hrow
                have hlen : ((nodes xs).map prOf).length = xs.length := by rw [List.length_map, nodes_length]
                have R14 := hrow.rdc
                rw [hlen] at R14 ⊢
                have HI := Lib.hid (highest_nodes w14 _ xs A8 c8 (G12.out.nx N14.out).t5 HNE.out (by have := HXL.out; omega) R14)
                have e12 : ((xs.length : Int) == 0) = false := by have := List.length_pos_iff.2 HNE.out; rw [beq_eq_false_iff_ne]; omega
                have e14 : ¬ xs = [] := HNE.out
                have e13 : ((xs.length : Int) == (xs.length : Int)) = true := by simp
                have N15 : Hid (Nx w w14) := (G12.out.nx N14.out).n
                clear ND hrow hn14 hlen R14
                go_wp2_with fail
                refine HI.out.mono ?_
                rintro e w15 ⟨rfl, hn15⟩
                have N16 : Hid (Nx w w15) := N15.out.trans hn15
                clear HI hn15
                go_wp2
                go_ret
                exact ⟨rfl, N16.out⟩
            · rw [if_neg hk] at hla
              rw [decide_eq_false hk] at hha
              rw [hha] at hna
              have hna : next key xs = (xs.drop pl).head? := hna
              have hnx : next key xs = some xs[pl] := by rw [hna, List.drop_eq_getElem_cons hlt]; rfl
              rw [hnx]
              obtain ⟨ev, hev⟩ : ∃ ev, xs[pl] = ev := ⟨_, rfl⟩
              rw [hev]
              clear hnx hna
              obtain ⟨W9, hW9⟩ : ∃ W9, w8.alloc (.cells #[.string (S ev.1), .string (S ev.2), .bool false] 40) = W9 := ⟨_, rfl⟩
              have n9 : Nx w8 W9 := by rw [← hW9]; exact (Nx.refl _).alloc _
              have b11 : BlkIs W9 w8.heap.size 40 #[.string (S ev.1), .string (S ev.2), .bool false] := by rw [← hW9]; exact BlkIs.new _ _ _
              have f0 := b11.frozen 0
              have f1 := b11.frozen 1
              have f2 := b11.frozen 2
              have y0 : W9.cell? ⟨w8.heap.size, 0, none⟩ = some (.string (S ev.1)) := by rw [b11.cell]; rfl
              have y1 : W9.cell? ⟨w8.heap.size, 1, none⟩ = some (.string (S ev.2)) := by rw [b11.cell]; rfl
              have y2 : W9.cell? ⟨w8.heap.size, 2, none⟩ = some (.bool false) := by rw [b11.cell]; rfl
              have s0 : W9.setCell ⟨w8.heap.size, 0, none⟩ (.string (S ev.1)) = W9 := by rw [← hW9]; simp [go_sem]
              have s1 : W9.setCell ⟨w8.heap.size, 1, none⟩ (.string (S ev.2)) = W9 := by rw [← hW9]; simp [go_sem]
              have s2 : W9.setCell ⟨w8.heap.size, 2, none⟩ (.bool false) = W9 := by rw [← hW9]; simp [go_sem]
              have g9 := G8.out.nx n9
              have d7 := g9.b5.at0 (Nx.refl W9)
              have GT := Lib.hid (tget_any W9 _ xs key g9.t5)
              rw [hla] at GT
              have G9 := Lib.hid g9
              have B11 := Lib.hid b11
              have R9 := Lib.hid (R8.out.nx n9)
              clear n9 g9 b11 hla hha
              unfold nextV prV prOf
              go_wp2_with fail
              refine GT.out.mono ?_
              rintro e w10 ⟨rfl, hn10⟩
              have g10 := G9.out.nx hn10
              have d8 := g10.b5.at0 (Nx.refl w10)
              have SZ := Lib.hid (tsize_any w10 _ xs g10.t5)
              have G10 := Lib.hid g10
              have B12 := Lib.hid (B11.out.nx hn10)
              have R11 := Lib.hid (R9.out.nx hn10)
              clear GT hn10 g10 d7 G9 B11 R9 hW9 f0 f1 f2 y0 y1 y2 s0 s1 s2
              unfold getV
              go_wp2_with fail
              refine SZ.out.mono ?_
              rintro e w11 ⟨rfl, hn11⟩
              have G11 := Lib.hid (G10.out.nx hn11)
              have B13 := Lib.hid (B12.out.nx hn11)
              have R12 := Lib.hid (R11.out.nx hn11)
              clear SZ hn11 d8 G10 B12 R11
              obtain ⟨hc1, hc2⟩ : xs.length ≤ c7 ∧ c7 ≤ 9223372036854775807 := by
                obtain ⟨A', c', e, h1, h2, _⟩ := G11.out.r7
                rw [List.length_map] at e h1
                simp only [Value.slice.injEq] at e
                obtain ⟨_, _, rfl⟩ := e
                exact ⟨h1, h2⟩
              have g1 : (pl : Int) ≤ (xs.length : Int) := by omega
              have g2 : (xs.length : Int) ≤ (c7 : Int) := by omega
              have g3 : (0 : Int) ≤ (pl : Int) := by omega
              have g4 : (pl : Int) ≤ (c7 : Int) := by omega
              obtain ⟨b7, o7, rfl⟩ : ∃ b o, A7 = some ⟨b, o, none⟩ := by
                rcases HP7.out with ⟨_, e, _⟩ | h
                · exact absurd e (by omega)
                · exact h
              have hc : ¬ c7 = pl := by omega
              have PS := Lib.hid (pairs_any w11 x10 _ ((xs.drop pl).map prOf) _ R12.out.rd (RdC.from G11.out.r7 pl (by omega)).rd (by rw [List.length_map, List.length_drop]; have := HXL.out; omega))
              rw [decide_eq_true rfl] at PS
              clear R12
              go_wp2_with fail
              refine PS.out.mono ?_
              rintro e w12 ⟨rfl, hn12⟩
              have g12 := G11.out.nx hn12
              have b12 := B13.out.nx hn12
              have d8 := g12.b5.at0 (Nx.refl w12)
              have y0 : w12.cell? ⟨w8.heap.size, 0, none⟩ = some (.string (S ev.1)) := by rw [b12.cell]; rfl
              have y1 : w12.cell? ⟨w8.heap.size, 1, none⟩ = some (.string (S ev.2)) := by rw [b12.cell]; rfl
              have y2 : w12.cell? ⟨w8.heap.size, 2, none⟩ = some (.bool false) := by rw [b12.cell]; rfl
              have hcells : ∀ i (hi : i < xs.length), w12.cell? ⟨b7, o7 + i * 3, none⟩ = some (.string (S xs[i].1)) ∧ w12.cell? ⟨b7, o7 + i * 3 + 1, none⟩ = some (.string (S xs[i].2)) ∧ w12.cell? ⟨b7, o7 + i * 3 + 2, none⟩ = some (.bool false) := fun i hi => g12.r7.key i hi
              obtain ⟨x0, -, -⟩ := hcells pl hlt
              have hse := S_eq xs[pl].1 key
              rw [decide_eq_false hk] at hse
              obtain ⟨z0, z1, z2⟩ := hcells pl hlt
              rw [hev] at x0 z0 z1 hse
              have hE := fun W => run_equal_pair W (prOf ev) (prOf ev)
              rw [decide_eq_true rfl] at hE
              unfold prV prOf at hE
              have e5 : decide ((pl : Int) < (xs.length : Int)) = true := by simp; omega
              have e6 : decide (pl < xs.length) = true := by simp; omega
              have e7 : (pl : Int) < (xs.length : Int) := by omega
              have ND : Hid (∀ V, Nx w12 V → Calls Try.prog 29 #[.agg #[.pointer u5]] V (Ret fun r w' => Row w' V.heap.size r ((nodes xs).map prOf) ∧ Nx V w')) := fun V hV => tnodes_any V _ xs (g12.t5.nx hV) (by have := HXL.out; omega)
              have G12 := Lib.hid g12
              have HNE : Hid (xs ≠ []) := fun e => by rw [e] at hlt; cases hlt
              clear PS hn12 g12 b12 G11 B13 hcells
              go_wp2_with fail
              go_quiet (fail)
              go_wp2_with fail
              refine (ND.out _ ((Nx.refl w12).drewN _)).mono ?_
              rintro e w14 ⟨r, rfl, hrow, hn14⟩
              have N14 : Hid (Nx w12 w14) := ((Nx.refl w12).drewN _).trans hn14
              obtain ⟨A8, c8, rfl⟩ := own_slice hrow
              have hlen : ((nodes xs).map prOf).length = xs.length := by rw [List.length_map, nodes_length]
              have R14 := hrow.rdc
              rw [hlen] at R14 ⊢
              have HI := Lib.hid (highest_nodes w14 _ xs A8 c8 (G12.out.nx N14.out).t5 HNE.out (by have := HXL.out; omega) R14)
              have e12 : ((xs.length : Int) == 0) = false := by have := List.length_pos_iff.2 HNE.out; rw [beq_eq_false_iff_ne]; omega
              have e14 : ¬ xs = [] := HNE.out
              have e13 : ((xs.length : Int) == (xs.length : Int)) = true := by simp
              have N15 : Hid (Nx w w14) := (G12.out.nx N14.out).n
              clear ND hrow hn14 hlen R14
              go_wp2_with fail
              refine HI.out.mono ?_
              rintro e w15 ⟨rfl, hn15⟩
              have N16 : Hid (Nx w w15) := N15.out.trans hn15
              clear HI hn15
              go_wp2
              go_ret
              exact ⟨rfl, N16.out⟩
          · rw [dif_neg hlt] at hla hha
            rw [hha] at hna
            have hna : next key xs = (xs.drop pl).head? := hna
            have hnx : next key xs = none := by rw [hna, List.drop_eq_nil_of_le (by omega)]; rfl
            rw [hnx]
            clear hnx hna
            obtain ⟨W9, hW9⟩ : ∃ W9, w8.alloc (.cells #[.string (S []), .string (S []), .bool false] 40) = W9 := ⟨_, rfl⟩
            have n9 : Nx w8 W9 := by rw [← hW9]; exact (Nx.refl _).alloc _
            have b11 : BlkIs W9 w8.heap.size 40 #[.string (S []), .string (S []), .bool false] := by rw [← hW9]; exact BlkIs.new _ _ _
            have f0 := b11.frozen 0
            have f1 := b11.frozen 1
            have f2 := b11.frozen 2
            have y0 : W9.cell? ⟨w8.heap.size, 0, none⟩ = some (.string (S [])) := by rw [b11.cell]; rfl
            have y1 : W9.cell? ⟨w8.heap.size, 1, none⟩ = some (.string (S [])) := by rw [b11.cell]; rfl
            have y2 : W9.cell? ⟨w8.heap.size, 2, none⟩ = some (.bool false) := by rw [b11.cell]; rfl
            have s0 : W9.setCell ⟨w8.heap.size, 0, none⟩ (.string (S [])) = W9 := by rw [← hW9]; simp [go_sem]
            have s1 : W9.setCell ⟨w8.heap.size, 1, none⟩ (.string (S [])) = W9 := by rw [← hW9]; simp [go_sem]
            have s2 : W9.setCell ⟨w8.heap.size, 2, none⟩ (.bool false) = W9 := by rw [← hW9]; simp [go_sem]
            have g9 := G8.out.nx n9
            have d7 := g9.b5.at0 (Nx.refl W9)
            have GT := Lib.hid (tget_any W9 _ xs key g9.t5)
            rw [hla] at GT
            have G9 := Lib.hid g9
            have B11 := Lib.hid b11
            have R9 := Lib.hid (R8.out.nx n9)
            clear n9 g9 b11 hla hha
            unfold nextV prV prOf
            go_wp2_with fail
            refine GT.out.mono ?_
            rintro e w10 ⟨rfl, hn10⟩
            have g10 := G9.out.nx hn10
            have d8 := g10.b5.at0 (Nx.refl w10)
            have SZ := Lib.hid (tsize_any w10 _ xs g10.t5)
            have G10 := Lib.hid g10
            have B12 := Lib.hid (B11.out.nx hn10)
            have R11 := Lib.hid (R9.out.nx hn10)
            clear GT hn10 g10 d7 G9 B11 R9 hW9 f0 f1 f2 y0 y1 y2 s0 s1 s2
            unfold getV
            go_wp2_with fail
            refine SZ.out.mono ?_
            rintro e w11 ⟨rfl, hn11⟩
            have G11 := Lib.hid (G10.out.nx hn11)
            have B13 := Lib.hid (B12.out.nx hn11)
            have R12 := Lib.hid (R11.out.nx hn11)
            clear SZ hn11 d8 G10 B12 R11
            obtain ⟨hc1, hc2⟩ : xs.length ≤ c7 ∧ c7 ≤ 9223372036854775807 := by
              obtain ⟨A', c', e, h1, h2, _⟩ := G11.out.r7
              rw [List.length_map] at e h1
              simp only [Value.slice.injEq] at e
              obtain ⟨_, _, rfl⟩ := e
              exact ⟨h1, h2⟩
            have g1 : (pl : Int) ≤ (xs.length : Int) := by omega
            have g2 : (xs.length : Int) ≤ (c7 : Int) := by omega
            have g3 : (0 : Int) ≤ (pl : Int) := by omega
            have g4 : (pl : Int) ≤ (c7 : Int) := by omega
            have hpe : pl = xs.length := by have := hple; omega
            have hz : xs.length - pl = 0 := by omega
            have hdr : (xs.drop pl).map prOf = [] := by rw [List.drop_eq_nil_of_le (by omega)]; rfl
            have RX : Hid (Rd w11 x10 []) := by rw [← hdr]; exact R12.out.rd
            have RS : Hid (∀ A c, Rd w11 (.slice A 0 c) []) := fun A c => .inl ⟨A, c, rfl, rfl⟩
            clear hz hdr
            rcases HP7.out with ⟨rfl, hx0, rfl⟩ | ⟨b7, o7, rfl⟩
            · obtain rfl : xs = [] := List.eq_nil_of_length_eq_zero hx0
              obtain rfl : pl = 0 := hpe
              have PS := Lib.hid (pairs_any w11 x10 _ [] _ RX.out (RS.out none 0) (by decide))
              rw [decide_eq_true rfl] at PS
              clear R12
              go_wp2_with fail
              refine PS.out.mono ?_
              rintro e w12 ⟨rfl, hn12⟩
              have g12 := G11.out.nx hn12
              have b12 := B13.out.nx hn12
              have d8 := g12.b5.at0 (Nx.refl w12)
              have y0 : w12.cell? ⟨w8.heap.size, 0, none⟩ = some (.string (S [])) := by rw [b12.cell]; rfl
              have y1 : w12.cell? ⟨w8.heap.size, 1, none⟩ = some (.string (S [])) := by rw [b12.cell]; rfl
              have y2 : w12.cell? ⟨w8.heap.size, 2, none⟩ = some (.bool false) := by rw [b12.cell]; rfl
              have ND : Hid (∀ V, Nx w12 V → Calls Try.prog 29 #[.agg #[.pointer u5]] V (Ret fun r w' => Row w' V.heap.size r ((nodes ([] : List KV)).map prOf) ∧ Nx V w')) := fun V hV => tnodes_any V _ ([] : List KV) (g12.t5.nx hV) (by have := HXL.out; omega)
              have G12 := Lib.hid g12
              clear PS hn12 g12 b12 G11 B13
              go_wp2_with fail
              go_quiet (fail)
              go_wp2_with fail
              refine (ND.out _ ((Nx.refl w12).drewN _)).mono ?_
              rintro e w14 ⟨r, rfl, hrow, hn14⟩
              have N14 : Hid (Nx w12 w14) := ((Nx.refl w12).drewN _).trans hn14
              obtain ⟨A8, c8, rfl⟩ := own_slice hrow
              have hlen : ((nodes ([] : List KV)).map prOf).length = ([] : List KV).length := by rw [List.length_map, nodes_length]
              have R14 := hrow.rdc
              rw [hlen] at R14 ⊢
              have N15 : Hid (Nx w w14) := (G12.out.nx N14.out).n
              clear ND hrow hn14 hlen R14
              go_wp2
              go_ret
              exact ⟨rfl, N15.out⟩
            · by_cases hc : c7 = pl
              · have hc2 : pl = c7 := hc.symm
                subst hc2
                have q1 : pl ≤ pl := Nat.le_refl _
                have PS := Lib.hid (pairs_any w11 x10 _ [] _ RX.out (RS.out (some ⟨b7, o7, none⟩) 0) (by decide))
                rw [decide_eq_true rfl] at PS
                clear R12
                go_wp2_with fail
                refine PS.out.mono ?_
                rintro e w12 ⟨rfl, hn12⟩
                have g12 := G11.out.nx hn12
                have b12 := B13.out.nx hn12
                have d8 := g12.b5.at0 (Nx.refl w12)
                have y0 : w12.cell? ⟨w8.heap.size, 0, none⟩ = some (.string (S [])) := by rw [b12.cell]; rfl
                have y1 : w12.cell? ⟨w8.heap.size, 1, none⟩ = some (.string (S [])) := by rw [b12.cell]; rfl
                have y2 : w12.cell? ⟨w8.heap.size, 2, none⟩ = some (.bool false) := by rw [b12.cell]; rfl
                have e5 : decide ((pl : Int) < (xs.length : Int)) = false := by simp; omega
                have e6 : decide (pl < xs.length) = false := by simp; omega
                have ND : Hid (∀ V, Nx w12 V → Calls Try.prog 29 #[.agg #[.pointer u5]] V (Ret fun r w' => Row w' V.heap.size r ((nodes xs).map prOf) ∧ Nx V w')) := fun V hV => tnodes_any V _ xs (g12.t5.nx hV) (by have := HXL.out; omega)
                have G12 := Lib.hid g12
                clear PS hn12 g12 b12 G11 B13
                go_wp2_with fail
                go_quiet (fail)
                go_wp2_with fail
                refine (ND.out _ ((Nx.refl w12).drewN _)).mono ?_
                rintro e w14 ⟨r, rfl, hrow, hn14⟩
                have N14 : Hid (Nx w12 w14) := ((Nx.refl w12).drewN _).trans hn14
                obtain ⟨A8, c8, rfl⟩ := own_slice hrow
                have hlen : ((nodes xs).map prOf).length = xs.length := by rw [List.length_map, nodes_length]
                have R14 := hrow.rdc
                rw [hlen] at R14 ⊢
                by_cases HXE : xs = []
                · subst HXE
                  have N15 : Hid (Nx w w14) := (G12.out.nx N14.out).n
                  clear ND hrow hn14 hlen R14
                  go_wp2
                  go_ret
                  exact ⟨rfl, N15.out⟩
                have HNE : Hid (xs ≠ []) := HXE
                have HI := Lib.hid (highest_nodes w14 _ xs A8 c8 (G12.out.nx N14.out).t5 HNE.out (by have := HXL.out; omega) R14)
                have e12 : ((xs.length : Int) == 0) = false := by have := List.length_pos_iff.2 HNE.out; rw [beq_eq_false_iff_ne]; omega
                have e14 : ¬ xs = [] := HNE.out
                have e13 : ((xs.length : Int) == (xs.length : Int)) = true := by simp
                have N15 : Hid (Nx w w14) := (G12.out.nx N14.out).n
                clear ND hrow hn14 hlen R14
                go_wp2_with fail
                refine HI.out.mono ?_
                rintro e w15 ⟨rfl, hn15⟩
                have N16 : Hid (Nx w w15) := N15.out.trans hn15
                clear HI hn15
                go_wp2
                go_ret
                exact ⟨rfl, N16.out⟩
              ·
                have PS := Lib.hid (pairs_any w11 x10 _ [] _ RX.out (RS.out (some ⟨b7, o7 + xs.length * 3, none⟩) (c7 - xs.length)) (by decide))
                rw [decide_eq_true rfl] at PS
                clear R12
                go_wp2_with fail
                refine PS.out.mono ?_
                rintro e w12 ⟨rfl, hn12⟩
                have g12 := G11.out.nx hn12
                have b12 := B13.out.nx hn12
                have d8 := g12.b5.at0 (Nx.refl w12)
                have y0 : w12.cell? ⟨w8.heap.size, 0, none⟩ = some (.string (S [])) := by rw [b12.cell]; rfl
                have y1 : w12.cell? ⟨w8.heap.size, 1, none⟩ = some (.string (S [])) := by rw [b12.cell]; rfl
                have y2 : w12.cell? ⟨w8.heap.size, 2, none⟩ = some (.bool false) := by rw [b12.cell]; rfl
                have e5 : decide ((pl : Int) < (xs.length : Int)) = false := by simp; omega
                have e6 : decide (pl < xs.length) = false := by simp; omega
                have ND : Hid (∀ V, Nx w12 V → Calls Try.prog 29 #[.agg #[.pointer u5]] V (Ret fun r w' => Row w' V.heap.size r ((nodes xs).map prOf) ∧ Nx V w')) := fun V hV => tnodes_any V _ xs (g12.t5.nx hV) (by have := HXL.out; omega)
                have G12 := Lib.hid g12
                clear PS hn12 g12 b12 G11 B13
                go_wp2_with fail
                go_quiet (fail)
                go_wp2_with fail
                refine (ND.out _ ((Nx.refl w12).drewN _)).mono ?_
                rintro e w14 ⟨r, rfl, hrow, hn14⟩
                have N14 : Hid (Nx w12 w14) := ((Nx.refl w12).drewN _).trans hn14
                obtain ⟨A8, c8, rfl⟩ := own_slice hrow
                have hlen : ((nodes xs).map prOf).length = xs.length := by rw [List.length_map, nodes_length]
                have R14 := hrow.rdc
                rw [hlen] at R14 ⊢
                by_cases HXE : xs = []
                · subst HXE
                  have N15 : Hid (Nx w w14) := (G12.out.nx N14.out).n
                  clear ND hrow hn14 hlen R14
                  go_wp2
                  go_ret
                  exact ⟨rfl, N15.out⟩
                have HNE : Hid (xs ≠ []) := HXE
                have HI := Lib.hid (highest_nodes w14 _ xs A8 c8 (G12.out.nx N14.out).t5 HNE.out (by have := HXL.out; omega) R14)
                have e12 : ((xs.length : Int) == 0) = false := by have := List.length_pos_iff.2 HNE.out; rw [beq_eq_false_iff_ne]; omega
                have e14 : ¬ xs = [] := HNE.out
                have e13 : ((xs.length : Int) == (xs.length : Int)) = true := by simp
                have N15 : Hid (Nx w w14) := (G12.out.nx N14.out).n
                clear ND hrow hn14 hlen R14
                go_wp2_with fail
                refine HI.out.mono ?_
                rintro e w15 ⟨rfl, hn15⟩
                have N16 : Hid (Nx w w15) := N15.out.trans hn15
                clear HI hn15
                go_wp2
                go_ret
                exact ⟨rfl, N16.out⟩
    · have d1 : decide ((key.length : Int) > 5000) = true := by simp; omega
      have d2 : decide (5000 < (key.length : Int)) = true := by simp; omega
      have d3 : decide (5000 < key.length) = true := by simp; omega
      go_wp2
      go_ret
      exact ⟨rfl, N2.out⟩
end Go.Proofs.Ytekcphpeaoaaaaa

/- Package table: the walk of TableRanks. -/
import Derived.Test.YtekcphpeaoaaaaaTbStands
namespace Go.Proofs.Ytekcphpeaoaaaaa
open Go.RowKit Go.Shelf
set_option linter.unusedVariables false

attribute [local go_sem] Oper.semAt_some

theorem pre_perm : ∀ t : T, t.pre.Perm t.pairs
  | .nil => List.Perm.refl _
  | .nd l k v r => by
    have h1 := pre_perm l
    have h2 := pre_perm r
    exact ((h1.append h2).cons (k, v)).trans List.perm_middle.symm
theorem Tb.perm {w : World} {T' : Value} {ys : List KV} (h : Tb w T' ys) : (nodes ys).Perm ys := by
  obtain ⟨u, t, _, _, hh, rfl, hs⟩ := h
  rw [← pre_nodes t hs hh]
  exact pre_perm t
theorem foldl_mem : ∀ (L xs : List KV), Srt xs → L.Pairwise (fun a b => a.1 ≠ b.1) → ∀ e, e ∈ (L.map prOf).foldl (fun xs p => ins p.k p.v xs) xs ↔ e ∈ L ∨ (e ∈ xs ∧ ∀ x ∈ L, x.1 ≠ e.1)
  | [], xs, _, _, e => by simp
  | a :: L, xs, hs, hp, e => by
    obtain ⟨h1, h2⟩ := List.pairwise_cons.1 hp
    have ih := foldl_mem L (ins a.1 a.2 xs) (ins_srt hs) h2 e
    have e1 : ((a :: L).map prOf).foldl (fun xs p => ins p.k p.v xs) xs = (L.map prOf).foldl (fun xs p => ins p.k p.v xs) (ins a.1 a.2 xs) := rfl
    rw [e1, ih, ins_mem hs]
    have ha : (a.1, a.2) = a := rfl
    rw [ha]
    constructor
    · rintro (h | ⟨rfl | ⟨h3, h4⟩, h5⟩)
      · exact .inl (List.mem_cons_of_mem _ h)
      · exact .inl List.mem_cons_self
      · exact .inr ⟨h3, fun x hx => by
          rcases List.mem_cons.1 hx with rfl | hx
          · exact fun e => h4 e.symm
          · exact h5 x hx⟩
    · rintro (h | ⟨h3, h4⟩)
      · rcases List.mem_cons.1 h with rfl | h
        · exact .inr ⟨.inl rfl, fun x hx => (h1 x hx).symm⟩
        · exact .inl h
      · exact .inr ⟨.inr ⟨h3, fun e => h4 a List.mem_cons_self e.symm⟩, fun x hx => h4 x (List.mem_cons_of_mem _ hx)⟩
theorem foldl_srt : ∀ (l : List Pr) (xs : List KV), Srt xs → Srt (l.foldl (fun xs p => ins p.k p.v xs) xs)
  | [], _, h => h
  | p :: l, _, h => foldl_srt l _ (ins_srt h)
theorem Srt.dist {ys : List KV} (h : Srt ys) : ys.Pairwise (fun a b => a.1 ≠ b.1) := h.imp fun h => lt_ne h
/-- A table's pairs, put one by one in any order. -/
theorem ofL_perm {L ys : List KV} (hp : L.Perm ys) (hs : Srt ys) : ofL (L.map prOf) = ys := by
  have hd : L.Pairwise (fun a b => a.1 ≠ b.1) := (hp.pairwise_iff (fun h => h.symm)).2 hs.dist
  refine srt_ext (foldl_srt _ _ Srt.nil) hs fun e => ?_
  rw [show (e ∈ ofL (L.map prOf) ↔ e ∈ L ∨ (e ∈ ([] : List KV) ∧ ∀ x ∈ L, x.1 ≠ e.1)) from foldl_mem L [] Srt.nil hd e]
  simp [hp.mem_iff]
theorem LightP.short {nn most : Nat} {l : List Pr} (h : LightP nn most l) (hm : most ≤ 100000) : ShortP l := fun p hp => ⟨Nat.le_trans (h.2 p hp).1 hm, Nat.le_trans (h.2 p hp).2 hm⟩
theorem Shorts.map {xs : List KV} (h : Shorts xs) {L : List KV} (hL : ∀ e ∈ L, e ∈ xs) : ShortP (L.map prOf) := fun p hp => by
  obtain ⟨e, he, rfl⟩ := List.mem_map.1 hp
  exact h e (hL e he)

set_option maxRecDepth 100000 in
set_option maxHeartbeats 2000000 in
theorem ranks_any (w : World) (A : Option Addr) (n c : Nat) (l : List Pr) (h : Rd w (.slice A n c) l) (hn : l.length = n) (hn2 : n ≤ 9223372036854775807) (hin : ∀ p ∈ l, PrIn p) :
    Calls Try.prog 8 #[.slice A n c] w fun e w' => e = .returned (.bool true) ∧ Nx w w' := by
  have LV := Lib.hid (lives_any w)
  have LP := Lib.hid (fun W hW => light_any W A n c l (h.nx hW) hn hn2 hin 400 300 (by decide) (by decide))
  have HR := Lib.hid h
  subst hn
  clear h hin hn2
  go_enter Try.func8, Try.ntmps8
  go_wp2_with fail
  refine LV.out.mono ?_
  rintro e w1 ⟨rfl, hn1⟩
  have N1 := Lib.hid hn1
  have LP1 := Lib.hid (LP.out w1 hn1)
  clear LV LP hn1
  go_wp2_with fail
  refine LP1.out.mono ?_
  rintro e w2 ⟨B, rfl, hB, hn2⟩
  have N2 := Lib.hid (N1.out.trans hn2)
  clear LP1 hn2
  cases B with
  | false =>
    clear hB
    go_wp2
    go_ret
    exact ⟨rfl, N2.out⟩
  | true =>
    have HL := Lib.hid (hB rfl)
    clear hB
    obtain ⟨W3, hW3⟩ : ∃ W3, w2.alloc (.cells #[.pointer none] 24) = W3 := ⟨_, rfl⟩
    have n3 : Nx w2 W3 := by rw [← hW3]; exact (Nx.refl _).alloc _
    have b3 : BlkIs W3 w2.heap.size 24 #[.pointer none] := by rw [← hW3]; exact BlkIs.new _ _ _
    have c3 : W3.cell? ⟨w2.heap.size, 0, none⟩ = some (.pointer none) := by rw [b3.cell]; rfl
    have DN := Lib.hid (done_any W3 _ _ [] l (Tb.zero W3) (HR.out.nx (N2.out.trans n3)) (HL.out.short (by decide)) (by have := HL.out.1; simp; omega))
    have N3 := Lib.hid (N2.out.trans n3)
    have B3 := Lib.hid b3
    clear n3 b3
    go_wp2_with fail
    refine DN.out.mono ?_
    rintro e w4 ⟨T1, rfl, ht, hn4⟩
    obtain ⟨u1, rfl⟩ := ht.agg
    obtain ⟨ys, hys⟩ : ∃ ys, acts [] l = ys := ⟨_, rfl⟩
    rw [hys] at ht
    have hyl : ys.length ≤ 400 := by
      have h1 := acts_len l []
      have h2 := HL.out.1
      rw [hys] at h1
      simp at h1
      omega
    have hb4 := B3.out.nx hn4
    have d3 : w4.cell? ⟨w2.heap.size, 0, none⟩ = some (.pointer none) := by rw [hb4.cell]; rfl
    have f3 := hb4.frozen 0
    obtain ⟨W5, hW5⟩ : ∃ W5, w4.setCell ⟨w2.heap.size, 0, none⟩ (.pointer u1) = W5 := ⟨_, rfl⟩
    have b5 : BlkIs W5 w2.heap.size 24 #[.pointer u1] := by rw [← hW5]; exact hb4.set 0 _
    have t5 : Tb W5 (.agg #[.pointer u1]) ys := by rw [← hW5]; exact ht.store hb4 (by decide) 0 _
    have n5 : Nx w2 W5 := by rw [← hW5]; exact Nx.set ((show Nx w2 W3 by rw [← hW3]; exact (Nx.refl _).alloc _).trans hn4) _ 0 _ (Nat.le_refl _)
    have c5 : W5.cell? ⟨w2.heap.size, 0, none⟩ = some (.pointer u1) := by rw [b5.cell]; rfl
    have T5 := Lib.hid t5
    have B5 := Lib.hid b5
    have N5 := Lib.hid (N2.out.trans n5)
    have ND := Lib.hid (tnodes_any W5 _ ys t5 (by omega))
    have HYL := Lib.hid hyl
    clear hW3 c3 DN ht hn4 hb4 b5 t5 n5 hys hyl N3 B3
    go_wp2_with fail
    refine ND.out.mono ?_
    rintro e w6 ⟨r, rfl, hrow, hn6⟩
    obtain ⟨A2, c2, rfl⟩ := own_slice hrow
    have hlen : ((nodes ys).map prOf).length = ys.length := by rw [List.length_map, nodes_length]
    have RD := Lib.hid hrow.rdc
    have RR := Lib.hid hrow.rd
    rw [hlen] at RD RR
    have c6 : w6.cell? ⟨w2.heap.size, 0, none⟩ = some (.pointer u1) := by rw [(B5.out.nx hn6).cell]; rfl
    have SZ := Lib.hid (tsize_any w6 _ ys (T5.out.nx hn6))
    have N6 := Lib.hid hn6
    have hne : ((ys.length : Int) != (ys.length : Int)) = false := by simp
    rw [hlen]
    clear ND hrow hn6 hW5 c5 d3 f3
    go_wp2_with fail
    refine SZ.out.mono ?_
    rintro e w7 ⟨rfl, hn7⟩
    have ST : Hid (Calls Try.prog 37 #[.slice A2 ys.length c2] w7 fun e w' => e = .returned (.bool true) ∧ Nx w7 w') := by
      obtain ⟨u', t, e, hin, hh, rfl, hs⟩ := T5.out
      have hsz := T.size_eq t
      refine stands_any t hh hs hin.shorts (by have := HYL.out; omega) w7 _ ?_
      rw [pre_nodes t hs hh]
      exact RD.out.nx hn7
    have N7 := Lib.hid (N6.out.trans hn7)
    have R7 := Lib.hid (RR.out.nx hn7)
    have R7c := Lib.hid (RD.out.nx hn7)
    clear SZ hn7 c6
    go_wp2_with fail
    refine ST.out.mono ?_
    rintro e w8 ⟨rfl, hn8⟩
    have N8 := Lib.hid (N7.out.trans hn8)
    have RR8 := Lib.hid (R7.out.nx hn8)
    clear ST hn8 R7 R7c RR RD
    go_wp2
    go_loopg [5] ys.length (fun n p5 wr => ∃ (i : Nat), p5 = .int .i64 (i : Int) ∧ Hid (i + n = ys.length ∧ Nx w8 wr))
    case atStart => exact ⟨0, rfl, by omega, Nx.refl _⟩
    case round =>
      obtain ⟨i, rfl, hh⟩ := hrel
      obtain ⟨hi, hnx⟩ := hh.out
      have HNX := Lib.hid hnx
      have n58 := N8.out.trans hnx
      by_cases hlt : i < ys.length
      · have hil : i < ((nodes ys).map prOf).length := by rw [List.length_map, nodes_length]; exact hlt
        rcases RR8.out.nx hnx with ⟨_, _, e, e0⟩ | ⟨ba, oa, c1, ea, hca⟩
        · rw [e0] at hil; cases hil
        · simp only [Value.slice.injEq] at ea
          obtain ⟨rfl, hlx, rfl⟩ := ea
          clear hlx
          have hel : i < (nodes ys).length := by rw [nodes_length]; exact hlt
          obtain ⟨x0, x1, x2⟩ := Rd.cells hca i hil
          have hpe : ((nodes ys).map prOf)[i] = prOf (nodes ys)[i] := List.getElem_map ..
          rw [hpe] at x0 x1 x2
          have hmem : (nodes ys)[i] ∈ ys := (T5.out.perm.mem_iff).1 (List.getElem_mem hel)
          have hlook : look (nodes ys)[i].1 ys = some (nodes ys)[i].2 := (look_some T5.out.srt).2 hmem
          generalize (nodes ys)[i] = ev at *
          have x0 : wr.cell? ⟨ba, oa + i * 3, none⟩ = some (.string (S ev.1)) := x0
          have hbl : ba < wr.heap.size := World.block_lt_of_cell? wr _ x0
          have b8 := B5.out.nx n58
          have c8 : wr.cell? ⟨w2.heap.size, 0, none⟩ = some (.pointer u1) := by rw [b8.cell]; rfl
          have GT := Lib.hid (tget_any wr.drew _ ys ev.1 (T5.out.nx (n58.trans (Nx.drew (Nx.refl wr)))))
          rw [hlook] at GT
          have KC : Hid (∀ V, Nx wr V → V.cell? ⟨ba, oa + i * 3, none⟩ = some (.string (S ev.1)) ∧ V.cell? ⟨w2.heap.size, 0, none⟩ = some (.pointer u1) ∧ V.cell? ⟨ba, oa + i * 3 + 1, none⟩ = some (.string (S ev.2)) ∧ V.cell? ⟨ba, oa + i * 3 + 2, none⟩ = some (.bool false)) := fun V hV =>
            ⟨by rw [World.cell?_of_block (hV.block ba hbl)]; exact x0, by rw [(b8.nx hV).cell]; rfl, by rw [World.cell?_of_block (hV.block ba hbl)]; exact x1, by rw [World.cell?_of_block (hV.block ba hbl)]; exact x2⟩
          have e2 : decide ((i : Int) < (ys.length : Int)) = true := by simp; omega
          have e3 : (i : Int) < (ys.length : Int) := by omega
          have e4 : (0 : Int) ≤ (i : Int) := by omega
          have hw : IntKind.i64.wrap ((i : Int) + 1) = (i : Int) + 1 := IntWalk.i64_in _ (by have := HYL.out; omega)
          have hse : ((S ev.2).toList == (S ev.2).toList) = true := by simp
          have NXT : Hid (gk - 1 < gk ∧ i + 1 + (gk - 1) = ys.length) := ⟨by omega, by omega⟩
          clear hca hpe hmem hlook hh hi hnx n58 hlt hil hel b8 hbl x1 x2
          unfold getV at GT
          clear hne
          go_wp2_with fail
          go_region_held3 (fun V => V.cell? ⟨ba, oa + i * 3, none⟩ = some (.string (S ev.1)) ∧ V.cell? ⟨w2.heap.size, 0, none⟩ = some (.pointer u1))
            (first | exact ⟨(KC.out _ N3.out).1, (KC.out _ N3.out).2.1⟩ | exact ⟨(KC.out _ (Nx.drew (Nx.refl wr))).1, (KC.out _ (Nx.drew (Nx.refl wr))).2.1⟩ | go_keep)
            ((go_at_call 9; refine GT.out.mono ?_; rintro e w3 ⟨rfl, hn3⟩; have N3 := Lib.hid ((Nx.drew (Nx.refl wr)).trans hn3); clear hn3))
          obtain ⟨v0, v1, v2, v3⟩ := KC.out _ N3.out
          have N9 : Hid (Nx w8 w3) := HNX.out.trans N3.out
          clear x0 c8 GT KC
          go_wp2
          go_roundg (gk - 1)
          case measure => exact NXT.out.1
          case rel => exact ⟨i + 1, by push_cast; rfl, NXT.out.2, N9.out⟩
      · have e2 : decide ((i : Int) < (ys.length : Int)) = false := by simp; omega
        have e3 : decide (i < ys.length) = false := by simp; omega
        have hperm := T5.out.perm
        have hsy := T5.out.srt
        have OF := Lib.hid (of_any wr _ _ (RR8.out.nx hnx) (T5.out.shorts.map fun e he => (hperm.mem_iff).1 he) (by rw [List.length_map, nodes_length]; have := HYL.out; omega))
        rw [ofL_perm hperm hsy] at OF
        have R9 := Lib.hid (RR8.out.nx hnx)
        have N9 := Lib.hid (N5.out.trans n58)
        clear hh hi hnx n58 hlt hperm hsy
        go_wp2_with fail
        refine OF.out.mono ?_
        rintro e w9 ⟨T9, rfl, ht9, hn9⟩
        have ND := Lib.hid (tnodes_any w9 _ ys ht9 (by have := HYL.out; omega))
        have R10 := Lib.hid (R9.out.nx hn9)
        have N10 := Lib.hid (N9.out.trans hn9)
        clear OF ht9 hn9
        go_wp2_with fail
        refine ND.out.mono ?_
        rintro e w10 ⟨r3, rfl, hrow, hn10⟩
        have PS := Lib.hid (pairs_any w10 _ _ _ _ hrow.rd (R10.out.nx hn10) (by rw [List.length_map, nodes_length]; have := HYL.out; omega))
        rw [decide_eq_true rfl] at PS
        have N11 := Lib.hid (N10.out.trans hn10)
        clear ND hrow hn10
        go_wp2_with fail
        refine PS.out.mono ?_
        rintro e w11 ⟨rfl, hn11⟩
        have N12 := Lib.hid (N11.out.trans hn11)
        clear PS hn11
        go_wp2_with fail
        go_ret
        exact ⟨rfl, N12.out⟩
end Go.Proofs.Ytekcphpeaoaaaaa

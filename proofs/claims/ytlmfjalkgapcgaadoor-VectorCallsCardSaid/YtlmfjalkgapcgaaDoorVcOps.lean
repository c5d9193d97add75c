/- Package vector: merged, difference, Compare, Order. -/
import Derived.Test.YtlmfjalkgapcgaaDoorVcSum
namespace Go.Proofs.YtlmfjalkgapcgaaDoor
open Go.RowKit
set_option linter.unusedVariables false

attribute [local go_sem] Oper.semAt_some

theorem p3_cells {w : World} {A : Option Addr} {n c : Nat} {l : List P3} (h : RdG p3E w (.slice A n c) l) (i : Nat) (hi : i < l.length) :
    ∃ b o, A = some ⟨b, o, none⟩ ∧ w.cell? ⟨b, o + i * 3, none⟩ = some (.int .i64 l[i].d) ∧ w.cell? ⟨b, o + i * 3 + 1, none⟩ = some (.int .u64 l[i].m) ∧ w.cell? ⟨b, o + i * 3 + 2, none⟩ = some (.int .u64 l[i].t) := by
  obtain ⟨b, o, e, h⟩ := h.at i hi
  exact ⟨b, o, e, h 0 _ rfl, h 1 _ rfl, h 2 _ rfl⟩
theorem box_p3 (w : World) (c : P3) : BlkIs (w.alloc (.cells #[.int .i64 c.d, .int .u64 c.m, .int .u64 c.t] 51)) w.heap.size 51 #[.int .i64 c.d, .int .u64 c.m, .int .u64 c.t] := BlkIs.new _ _ _
theorem dfl_cons (p : P3) (l : List P3) : dfl (p :: l) = if p.m = p.t then dfl l else if p.m < p.t then -1 else 1 := rfl
theorem ag_len : ∀ l o : List Ct, (ag l o).length ≤ l.length + o.length
  | [], o => by rw [ag_nil_r]; simp
  | c :: l, [] => by rw [ag_last]; have := ag_len l []; simp at this ⊢; omega
  | c :: l, x :: o => by
    rw [ag]
    split
    · have := ag_len (c :: l) o; simp at this ⊢; omega
    · split
      · have := ag_len l o; simp at this ⊢; omega
      · have := ag_len l (x :: o); simp at this ⊢; omega
termination_by l o => l.length + o.length

set_option maxRecDepth 100000 in
set_option maxHeartbeats 1000000 in
theorem difference_any (w : World) (v v2 : Value) (l o : List Ct) (h : RdG ctE w v l) (h2 : RdG ctE w v2 o) (hn : l.length + o.length ≤ 100000000) :
    Calls Tryd.prog 34 #[v, v2] w fun e w' => e = .returned (.int .i64 (dfl (ag l o))) ∧ Nx w w' := by
  have AG := Lib.hid (against_any w v v2 l o h h2 hn)
  have hal := ag_len l o
  generalize ag l o = t at *
  clear h h2
  go_enter Tryd.func34, Tryd.ntmps34
  go_wp2_with fail
  refine AG.out.mono ?_
  rintro e w1 ⟨r, rfl, hrow, hn1⟩
  obtain ⟨A, c, rfl⟩ := hrow.form
  have HR := Lib.hid hrow.rd
  have N1 := Lib.hid hn1
  have HT : Hid (t.length ≤ 100000000) := by show _ ≤ _; omega
  clear AG hrow hn1 hal hn
  go_wp2
  go_loopw [11] (fun x wr => ∃ i : Nat, x = .int .i64 i ∧ i ≤ t.length ∧ Hid (Nx w1 wr ∧ dfl (t.drop i) = dfl t)) (fun x _ => t.length - (intOf x).toNat)
  case atStart => exact ⟨0, rfl, Nat.zero_le _, Nx.refl _, rfl⟩
  case round =>
    obtain ⟨i, rfl, hi, hh⟩ := hrel
    obtain ⟨hnx, hd⟩ := hh.out
    have hT := HT.out
    by_cases hlt : i < t.length
    · have e2 : decide ((i : Int) < (t.length : Int)) = true := by simpa using hlt
      have e2b : decide (i < t.length) = true := by simpa using hlt
      have e3 : (0 : Int) ≤ (i : Int) := by omega
      have e4 : (i : Int) < (t.length : Int) := by omega
      obtain ⟨b, o, rfl, x0, x1, x2⟩ := p3_cells (HR.out.nx hnx) i hlt
      have hw : IntKind.i64.wrap ((i : Int) + 1) = ((i + 1 : Nat) : Int) := by rw [IntWalk.i64_in _ (by omega)]; omega
      rw [List.drop_eq_getElem_cons hlt] at hd
      have HL := Lib.hid hlt
      generalize t[i] = q at *
      have zb := box_p3 wr q
      obtain ⟨U, hU⟩ : ∃ U, wr.alloc (.cells #[.int .i64 q.d, .int .u64 q.m, .int .u64 q.t] 51) = U := ⟨_, rfl⟩
      have HN : Hid (Nx w1 U) := by rw [← hU]; exact hnx.alloc _
      rw [hU] at zb
      have z1 : U.cell? ⟨wr.heap.size, 1, none⟩ = some (.int .u64 q.m) := by rw [zb.cell]; rfl
      have z2 : U.cell? ⟨wr.heap.size, 2, none⟩ = some (.int .u64 q.t) := by rw [zb.cell]; rfl
      cases hq : ((q.m : Int) == (q.t : Int)) with
      | true =>
        have hd2 : dfl (t.drop (i + 1)) = dfl t := by rw [← hd, dfl_cons, if_pos (by simp at hq; omega)]
        have HD := Lib.hid hd2
        clear hh hnx hd hd2 zb hlt hT
        go_wp2
        go_roundw
        case rel => exact ⟨i + 1, rfl, HL.out, HN.out, HD.out⟩
        case measure => simp only [intOf, Int.toNat_natCast]; have := HL.out; omega
      | false =>
        have hd2 : dfl t = cmpN q.m q.t := by
          have hne : q.m ≠ q.t := fun e => by rw [e] at hq; simp at hq
          rw [← hd, dfl_cons, if_neg hne]; unfold cmpN
          by_cases h : q.m < q.t
          · rw [if_pos h, if_pos h]
          · rw [if_neg h, if_neg h, if_pos (by omega)]
        have HD := Lib.hid hd2
        have CL := Lib.hid (cmp_any U q.m q.t)
        clear hh hnx hd hd2 zb hlt hT
        go_wp2_with fail
        refine CL.out.mono ?_
        rintro e w2 ⟨rfl, hn2⟩
        have N2 := Lib.hid (N1.out.trans (HN.out.trans hn2))
        clear CL hn2
        go_wp2
        go_ret
        exact ⟨by rw [HD.out]; rfl, N2.out⟩
    · have e2 : decide ((i : Int) < (t.length : Int)) = false := by simpa using hlt
      have e2b : decide (i < t.length) = false := by simpa using hlt
      rw [List.drop_eq_nil_of_le (by omega)] at hd
      have HD := Lib.hid hd
      have HF := Lib.hid (N1.out.trans hnx)
      clear hh hnx hd hT
      go_wp2
      go_ret
      exact ⟨by rw [← HD.out]; rfl, HF.out⟩

set_option maxRecDepth 100000 in
set_option maxHeartbeats 1000000 in
theorem merged_any (w : World) (v v2 : Value) (l o : List Ct) (h : RdG ctE w v l) (h2 : RdG ctE w v2 o) (hn : l.length + o.length ≤ 100000000) :
    Calls Tryd.prog 29 #[v, v2] w (Ret fun r w' => RwG ctE w' w.heap.size r (mg l o) ∧ Nx w w') := by
  have AG := Lib.hid (against_any w v v2 l o h h2 hn)
  have hal := ag_len l o
  have HMG : Hid (mg l o = (ag l o).map mx) := rfl
  generalize ag l o = t at *
  clear h h2
  go_enter Tryd.func29, Tryd.ntmps29
  go_wp2_with fail
  refine AG.out.mono ?_
  rintro e w1 ⟨r, rfl, hrow, hn1⟩
  obtain ⟨A, c, rfl⟩ := hrow.form
  have HR := Lib.hid hrow.rd
  have N1 := Lib.hid hn1
  have HT : Hid (t.length ≤ 100000000) := by show _ ≤ _; omega
  clear AG hrow hn1 hal hn
  go_wp2
  go_loopw [5, 12] (fun x5 x wr => ∃ (i : Nat) (A n c : _), x5 = .slice A n c ∧ x = .int .i64 i ∧ i ≤ t.length ∧ Hid (Nx w1 wr ∧ RwG ctE wr w1.heap.size (.slice A n c) ((t.take i).map mx))) (fun _ x _ => t.length - (intOf x).toNat)
  case atStart => exact ⟨0, _, _, _, rfl, rfl, Nat.zero_le _, Nx.refl _, RwG.nil _ _⟩
  case round =>
    obtain ⟨i, A5, n5, c5, rfl, rfl, hi, hh⟩ := hrel
    obtain ⟨hnx, hd⟩ := hh.out
    have hT := HT.out
    by_cases hlt : i < t.length
    · have e2 : decide ((i : Int) < (t.length : Int)) = true := by simpa using hlt
      have e2b : decide (i < t.length) = true := by simpa using hlt
      have e3 : (0 : Int) ≤ (i : Int) := by omega
      have e4 : (i : Int) < (t.length : Int) := by omega
      obtain ⟨b, o, rfl, x0, x1, x2⟩ := p3_cells (HR.out.nx hnx) i hlt
      have hw : IntKind.i64.wrap ((i : Int) + 1) = ((i + 1 : Nat) : Int) := by rw [IntWalk.i64_in _ (by omega)]; omega
      have hsn : (t.take (i + 1)).map mx = (t.take i).map mx ++ [mx t[i]] := by rw [List.take_succ_eq_append_getElem hlt, List.map_append]; rfl
      have HL := Lib.hid hlt
      generalize t[i] = q at *
      have hmx : mx q = ⟨q.d, max q.m q.t⟩ := rfl
      rw [hmx] at hsn
      have hmi : ((max q.m q.t : Nat) : Int) = max (q.m : Int) (q.t : Int) := by omega
      generalize hmq : max q.m q.t = m at *
      have zb := box_p3 wr q
      obtain ⟨U, hU⟩ : ∃ U, wr.alloc (.cells #[.int .i64 q.d, .int .u64 q.m, .int .u64 q.t] 51) = U := ⟨_, rfl⟩
      have nn : Nx wr U := by rw [← hU]; exact (Nx.refl _).alloc _
      rw [hU] at zb
      have z0 : U.cell? ⟨wr.heap.size, 0, none⟩ = some (.int .i64 q.d) := by rw [zb.cell]; rfl
      have z1 : U.cell? ⟨wr.heap.size, 1, none⟩ = some (.int .u64 q.m) := by rw [zb.cell]; rfl
      have z2 : U.cell? ⟨wr.heap.size, 2, none⟩ = some (.int .u64 q.t) := by rw [zb.cell]; rfl
      have NXT : Hid (∀ V v' w3, Nx wr V → RwG ctE w3 w1.heap.size v' ((t.take i).map mx ++ [⟨q.d, m⟩]) → V.grownBy w3 (Value.slice A5 n5 c5).ownBlock → Nx w1 w3 ∧ RwG ctE w3 w1.heap.size v' ((t.take (i + 1)).map mx)) := fun V v' w3 hv hr hg =>
        ⟨(hnx.trans hv).grow (hd.nx hv) (Nat.le_refl _) hg, by rw [hsn]; exact hr⟩
      have ACC := Lib.hid hd
      have LN : Hid (∀ p : Ct, ((t.take i).map mx).length + [p].length ≤ 1000000000) := fun p => by simp only [List.length_map, List.length_take, List.length_singleton]; omega
      have SZ : Hid (w1.heap.size ≤ wr.heap.size) := hnx.size
      have HU := Lib.hid nn
      by_cases hgt : q.m < q.t
      · have hm2 : m = q.t := by omega
        have hgt2 : (q.m : Int) < (q.t : Int) := by omega
        subst hm2
        clear hh hnx hd zb hlt hT hsn hmx nn hmi hmq
        go_wp2_with (at_builtin; refine wpList_appG (E := ctE) 44 Tryd.underlying44 rfl _ _ rfl w1.heap.size (.slice A5 n5 c5) _ ((t.take i).map mx) [⟨q.d, q.t⟩] rfl rfl (ACC.out.nx (HU.out.alloc _)) (rd_lit _ _ rfl) (LN.out _) (Nat.le_trans SZ.out (HU.out.alloc _).size) ?_; intro v1 w3 hrow1 hg1; have g1 := NXT.out _ v1 w3 (HU.out.alloc _) hrow1 hg1; obtain ⟨A6, n6, c6, rfl⟩ : ∃ A n c, v1 = .slice A n c := (by obtain ⟨A, c, e⟩ := hrow1.form; exact ⟨_, _, _, e⟩); have G1 := Lib.hid g1; clear g1 hrow1 hg1)
        go_roundw
        case rel => exact ⟨i + 1, _, _, _, rfl, rfl, HL.out, G1.out⟩
        case measure => simp only [intOf, Int.toNat_natCast]; have := HL.out; omega
      · have hm2 : m = q.m := by omega
        have hgt2 : ¬ (q.m : Int) < (q.t : Int) := by omega
        subst hm2
        clear hh hnx hd zb hlt hT hsn hmx nn hmi hmq
        go_wp2_with (at_builtin; refine wpList_appG (E := ctE) 44 Tryd.underlying44 rfl _ _ rfl w1.heap.size (.slice A5 n5 c5) _ ((t.take i).map mx) [⟨q.d, q.m⟩] rfl rfl (ACC.out.nx (HU.out.alloc _)) (rd_lit _ _ rfl) (LN.out _) (Nat.le_trans SZ.out (HU.out.alloc _).size) ?_; intro v1 w3 hrow1 hg1; have g1 := NXT.out _ v1 w3 (HU.out.alloc _) hrow1 hg1; obtain ⟨A6, n6, c6, rfl⟩ : ∃ A n c, v1 = .slice A n c := (by obtain ⟨A, c, e⟩ := hrow1.form; exact ⟨_, _, _, e⟩); have G1 := Lib.hid g1; clear g1 hrow1 hg1)
        go_roundw
        case rel => exact ⟨i + 1, _, _, _, rfl, rfl, HL.out, G1.out⟩
        case measure => simp only [intOf, Int.toNat_natCast]; have := HL.out; omega
    · have e2 : decide ((i : Int) < (t.length : Int)) = false := by simpa using hlt
      have e2b : decide (i < t.length) = false := by simpa using hlt
      rw [List.take_of_length_le (by omega)] at hd
      have HD : Hid (RwG ctE wr w.heap.size (.slice A5 n5 c5) (t.map mx)) := hd.more N1.out.size
      have HF := Lib.hid (N1.out.trans hnx)
      clear hh hnx hd hT
      go_wp2
      go_ret
      exact ⟨_, rfl, by rw [HMG.out]; exact HD.out, HF.out⟩
end Go.Proofs.YtlmfjalkgapcgaaDoor

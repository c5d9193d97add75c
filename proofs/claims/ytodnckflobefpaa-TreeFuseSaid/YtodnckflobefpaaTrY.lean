/- Package tree: Paths; and what the laws use beside it: got, Own, Pick, Texts. -/
import Derived.Test.YtodnckflobefpaaTrStep
namespace Go.Proofs.Ytodnckflobefpaa
open Go.RowKit Go.Maps
set_option linter.unusedVariables false

theorem got_any (w : World) (tb : Nat) (s : St) (g : Gh) {k : Nat} (hk : k ≤ 1000) (h : TreeAt w tb s g) (ok : Ok k s) (p : Str) (hp : p.length ≤ 10000) :
    Calls Try.prog 15 #[.pointer (some ⟨tb, 0, none⟩), .string (S p)] w fun e w' => e = .returned (.string (S (s.read p).2.1)) ∧ TreeAt w' tb (s.read p).1 g ∧ Chd (fun j => j = tb) w w' := by
  have R := Lib.hid (read_any w tb s g hk h ok p hp)
  clear h ok hp
  generalize s.read p = r at *
  obtain ⟨s1, b, er⟩ := r
  generalize S p = sp at *
  go_enter Try.func15, Try.ntmps15
  go_wp2_with fail
  refine R.out.mono ?_
  rintro e w2 ⟨A, n, c, rfl, ho, ht, hc⟩
  have hconv := run_string_of_bytes ho.byt
  have T := Lib.hid ht
  have C := Lib.hid hc
  clear ho ht hc R
  rw [show (⟨List.toArray b⟩ : ByteArray) = S b from rfl] at hconv
  simp only at *
  generalize hsb : S b = sb at *
  go_wp2
  go_ret
  exact ⟨by first | rfl | (rw [hsb]; rfl), T.out, C.out⟩

set_option maxRecDepth 100000 in
theorem own_any2 (w : World) (A : Option Addr) (n c : Nat) (b : Str) (h : Arg w A n c b) (hn : n ≤ 100000000) :
    Calls Try.prog 26 #[.slice A n c] w fun e w' => ∃ j c2, e = .returned (.slice (some ⟨j, 0, none⟩) n c2) ∧ Own w' w.heap.size (some ⟨j, 0, none⟩) n c2 b ∧ Nx w w' := by
  have b1 : Below w.heap.size w (w.alloc (.cells #[] 5)) := (Below.refl _ w).alloc (Nat.le_refl _) _
  have ho : Own (w.alloc (.cells #[] 5)) w.heap.size (some ⟨w.heap.size, 0, none⟩) 0 0 [] := Own.lit w #[] [] rfl (by simp [maxLen])
  have ha := (h.nx b1).byt
  have HO := Lib.hid ho
  have HA := Lib.hid ha
  have HB := Lib.hid b1
  clear h ho ha b1
  go_enter Try.func26, Try.ntmps26
  go_wp2_with (at_builtin; refine wpList_byte_append rfl _ _ rfl w.heap.size (some ⟨w.heap.size, 0, none⟩) 0 0 [] rfl HO.out _ A n c b rfl HA.out (by omega) (by simp) ?_; intro A2 c2 w2 ho2 hg2 hat)
  go_ret
  have hj : ∃ j, A2 = some ⟨j, 0, none⟩ := by
    rcases ho2.form with ⟨rfl, _, _⟩ | h
    · rcases hat with h | h <;> cases h
    · exact h
  obtain ⟨j, rfl⟩ := hj
  refine ⟨j, c2, ?_, ?_, ?_⟩
  · simp
  · simpa using ho2
  · have c1 : Chd (fun j => j = w.heap.size) w w2 := (Chd.of_below HB.out).trans (Chd.of_grown hg2)
    exact c1.below (Nat.le_refl _) (fun j hj e => by omega)

theorem neg_lt_tmod (n m : Int) (h : 0 < m) : -m < n.tmod m := by
  have := Int.tmod_lt_of_pos (-n) h
  rw [Int.neg_tmod] at this
  omega
/-- What Pick returns. -/
def pickOf (n m : Int) : Int := if n.tmod m < 0 then n.tmod m + m else n.tmod m
theorem pick_any (n m : Int) (w : World) (h1 : 1 ≤ m) (h2 : m ≤ 4611686018427387904) (h3 : -9223372036854775808 ≤ n) (h4 : n ≤ 9223372036854775807) :
    Calls Try.prog 29 #[.int .i64 n, .int .i64 m] w fun e w' => e = .returned (.int .i64 (pickOf n m)) ∧ w = w' := by
  have hm0 : ¬ m = 0 := by omega
  have t1 := Int.tmod_lt_of_pos n (show 0 < m by omega)
  have t2 := neg_lt_tmod n m (by omega)
  unfold pickOf
  by_cases hneg : n.tmod m < 0
  · rw [if_pos hneg]
    go_enter Try.func29, Try.ntmps29
    go_wp2
    go_ret
    exact ⟨rfl, rfl⟩
  · rw [if_neg hneg]
    go_enter Try.func29, Try.ntmps29
    go_wp2
    go_ret
    exact ⟨rfl, rfl⟩
theorem pickOf_lo (n m : Int) (h : 1 ≤ m) : 0 ≤ pickOf n m := by
  unfold pickOf
  have := neg_lt_tmod n m (by omega)
  split <;> omega
theorem pickOf_hi (n m : Int) (h : 1 ≤ m) : pickOf n m < m := by
  unfold pickOf
  have := Int.tmod_lt_of_pos n (show 0 < m by omega)
  split <;> omega



theorem filter_take_succ (ps : List Str) (q : Str → Bool) (i : Nat) (p : Str) (h : ps[i]? = some p) : (ps.take (i + 1)).filter q = (ps.take i).filter q ++ (if q p then [p] else []) := by
  rw [List.take_add_one, h, List.filter_append]
  cases e : q p <;> simp [e]
set_option maxRecDepth 100000 in
theorem paths_any (w : World) (tb : Nat) (s : St) (g : Gh) {k : Nat} (hk : k ≤ 1000) (h : TreeAt w tb s g) (ok : Ok k s) (hps : ∀ e ∈ s.files, e.1.length ≤ 10000) (q : Str) :
    Calls Try.prog 23 #[.pointer (some ⟨tb, 0, none⟩), .string (S q)] w fun e w' => ∃ A n c, e = .returned (.slice A n c) ∧ StrRow w' w.heap.size A n c (s.paths q) ∧ Nx w w' := by
  obtain ⟨i0, hi, hz0, hz1, hz2⟩ := info_parts string_info
  have V := Lib.hid (valid_any w tb g.mf (top_of h.top).c3)
  have c3 := (top_of h.top).c3
  have SR := Lib.hid (sorted_any w g.mf g.blk s.files h.mfA (by have := ok.lf; omega))
  have HL : Hid (s.files.length ≤ 1000) := by have := ok.lf; show s.files.length ≤ 1000; omega
  have HPS : Hid (∀ p ∈ s.files.map (·.1), p.length ≤ 10000) := fun p hp => by
    obtain ⟨e, he, rfl⟩ := List.mem_map.1 hp
    exact hps e he
  have HP := Lib.hid (fun (s1 p : ByteArray) (W : World) => Try.strings_HasPrefix s1 p W)
  have HDEF : Hid (s.paths q = (s.files.map (·.1)).filter fun p => q.isPrefixOf p) := rfl
  clear h ok hps
  generalize hqs : S q = qs at *
  have HQS := Lib.hid hqs
  clear hqs
  generalize hout : s.paths q = out at *
  clear hout
  go_enter Try.func23, Try.ntmps23
  go_wp2_with fail
  refine V.out.mono ?_
  rintro e w' ⟨rfl, rfl⟩
  go_wp2_with fail
  refine SR.out.mono ?_
  rintro e w1 ⟨A1, c1, rfl, hrow, hb⟩
  have hlen : (s.files.map (·.1)).length = s.files.length := by simp
  obtain ⟨ps, hpse⟩ : ∃ ps, s.files.map (·.1) = ps := ⟨_, rfl⟩
  obtain ⟨N, hN⟩ : ∃ N, s.files.length = N := ⟨_, rfl⟩
  rw [hpse] at hrow HPS HDEF hlen
  rw [hN] at hrow HL hlen ⊢
  have HR := Lib.hid hrow
  have HB := Lib.hid hb
  have HLEN := Lib.hid hlen
  clear hrow hb hlen hpse hN SR V c3
  go_wp2
  go_loopw [5, 17] (fun y x wr => ∃ (i n c : Nat) (A : Option Addr), x = .int .i64 i ∧ y = .slice A n c ∧ i ≤ N ∧ n ≤ i ∧ Hid (StrRow wr w.heap.size A n c ((ps.take i).filter fun p => q.isPrefixOf p) ∧ Nx w wr ∧ StrRow wr w.heap.size A1 N c1 ps ∧ ∀ j, A = some ⟨j, 0, none⟩ → A1 ≠ some ⟨j, 0, none⟩)) (fun _ x _ => N - (intOf x).toNat)
  case atStart => exact ⟨0, 0, 0, none, rfl, rfl, Nat.zero_le _, Nat.zero_le _, ⟨rfl, .inl ⟨rfl, rfl⟩⟩, HB.out, HR.out, fun j e => by cases e⟩
  case round =>
    obtain ⟨i, n, c, A, rfl, rfl, hiN, hni, hrel⟩ := hrel
    have hN := HL.out
    by_cases hlt : i < N
    · obtain ⟨p, hp⟩ : ∃ p, ps[i]? = some p := ⟨_, List.getElem?_eq_getElem (by rw [HLEN.out]; exact hlt)⟩
      obtain ⟨b1, rfl, hbB, hbl, hcell⟩ := row_cell hrel.out.2.2.1 (i := i) (p := p) hlt hp
      have hpl : p.length ≤ 10000 := HPS.out p (List.mem_of_getElem? hp)
      have hstep := filter_take_succ ps (fun p => q.isPrefixOf p) i p hp
      have X : Hid (∀ W, Calls Try.prog 49 #[.string (S p), .string qs] W fun e w' => e = .returned (.bool (q.isPrefixOf p)) ∧ w' = W) := fun W => by
        have := HP.out (S p) qs W
        rw [← HQS.out] at this ⊢
        exact this
      have CLN := Lib.hid (fun W => clone_any W (S p) (by rw [S_size]; omega))
      have HST := Lib.hid hstep
      have REL := hrel
      clear hrel hstep hpl hp
      cases hpre : q.isPrefixOf p with
      | false =>
        rw [hpre] at X
        have hst : (ps.take (i + 1)).filter (fun p => q.isPrefixOf p) = (ps.take i).filter fun p => q.isPrefixOf p := by have := HST.out; simp only [hpre] at this; simpa using this
        have HS2 := Lib.hid hst
        clear hst HST hpre
        generalize S p = sp at *
        go_wp2_with fail
        refine (X.out wr).mono ?_
        rintro e w' ⟨rfl, rfl⟩
        clear X CLN
        go_wp2
        go_roundw
        case rel => exact ⟨i + 1, n, c, A, by go_num, rfl, by omega, by omega, by rw [HS2.out]; exact REL.out.1, REL.out.2⟩
        case measure => simp [intOf]; omega
      | true =>
        rw [hpre] at X
        have hst : (ps.take (i + 1)).filter (fun p => q.isPrefixOf p) = ((ps.take i).filter fun p => q.isPrefixOf p) ++ [p] := by have := HST.out; simp only [hpre] at this; simpa using this
        have HS2 := Lib.hid hst
        clear hst HST hpre
        generalize hsp : S p = sp at *
        have HSP := Lib.hid hsp
        clear hsp
        go_wp2_with fail
        refine (X.out wr).mono ?_
        rintro e w' ⟨rfl, rfl⟩
        go_wp2_with fail
        refine (CLN.out w').mono ?_
        rintro e w3 ⟨rfl, hb3⟩
        have hrow3 : (w3.alloc (.cells #[.string sp] 9)).ownsRow w.heap.size 9 1 (.slice A n c) n (strV ((ps.take i).filter fun p => q.isPrefixOf p)) :=
          row_chd (M := fun _ => False) REL.out.1 (Chd.of_below (Nx.trans hb3 ((Below.refl _ w3).alloc (Nat.le_refl _) _))) (fun _ _ e => e)
        have HR3 := Lib.hid hrow3
        have B3 := Lib.hid hb3
        have hBl : w.heap.size ≤ w3.heap.size := Nat.le_trans REL.out.2.1.size hb3.size
        clear hrow3 hb3 X CLN hcell
        go_wp2_with (at_builtin; refine wpList_append_lies _ rfl _ _ 48 rfl w.heap.size 9 i0 (.string ⟨#[]⟩) 1 16 Try.underlying48 hi hz0 hz1 hz2 rfl (by decide) (.slice A n c) n _ rfl HR3.out ⟨w3.heap.size, 0, none⟩ 1 1 [.string sp] rfl rfl (cell_one_new _ _ _) (by simp [Value.oneCell']) (by decide) (by unfold maxLen; omega) (by omega) (by simp; omega) _ rfl ?_; intro gb cap w5 hown5 hgrow hat hlt5)
        have C35 : Chd (fun j => (Value.slice A n c).ownBlock = some j) w' w5 := (Chd.of_below (Nx.trans B3.out ((Below.refl _ w3).alloc (Nat.le_refl _) _))).trans (Chd.of_grownBy hgrow)
        have hne : ∀ j, (Value.slice A n c).ownBlock = some j → w.heap.size ≤ j ∧ j < w'.heap.size ∧ j ≠ b1 := fun j e => by
          rcases REL.out.1.2 with ⟨hv, _⟩ | ⟨gq, cq, cur, hv, hB, hg, _⟩
          · rw [hv] at e; cases e
          · rw [hv] at e
            have e2 : gq = j := by simpa [Value.ownBlock] using e
            subst e2
            simp only [Value.slice.injEq] at hv
            refine ⟨hB, (Array.getElem?_eq_some_iff.1 hg).1, fun e3 => ?_⟩
            exact REL.out.2.2.2 gq hv.1 (by rw [e3])
        have hnx : Nx w w5 := by
          have a : Chd (fun _ => False) w w5 := (Chd.of_below REL.out.2.1).then_ C35 (fun j hj e => by have := (hne j e).1; omega)
          exact a.below (Nat.le_refl _) (fun _ _ e => e)
        have hrow1 : StrRow w5 w.heap.size (some ⟨b1, 0, none⟩) N c1 ps := row_chd REL.out.2.2.1 C35 (fun j hj e => by
          have e2 : b1 = j := by simpa [Value.ownBlock] using hj
          exact (hne j e).2.2 e2.symm)
        have hgb : gb ≠ b1 := fun e => by
          rcases hat with h | h
          · exact (hne gb h).2.2 e
          · have h2 : gb = w3.heap.size + 1 := by simpa using h
            have := B3.out.size
            omega
        have hown6 : StrRow w5 w.heap.size (some ⟨gb, 0, none⟩) (n + 1) cap ((ps.take (i + 1)).filter fun p => q.isPrefixOf p) := by
          rw [HS2.out]
          unfold StrRow strV
          rw [List.map_append, List.map_cons, List.map_nil, HSP.out]
          exact hown5
        have ALL : Hid (StrRow w5 w.heap.size (some ⟨gb, 0, none⟩) (n + 1) cap ((ps.take (i + 1)).filter fun p => q.isPrefixOf p) ∧ Nx w w5 ∧ StrRow w5 w.heap.size (some ⟨b1, 0, none⟩) N c1 ps ∧ ∀ j, (some ⟨gb, 0, none⟩ : Option Addr) = some ⟨j, 0, none⟩ → (some ⟨b1, 0, none⟩ : Option Addr) ≠ some ⟨j, 0, none⟩) := ⟨hown6, hnx, hrow1, fun j e e2 => by
          simp only [Option.some.injEq, Addr.mk.injEq, and_true] at e e2
          omega⟩
        clear hown6 hnx hrow1 hgb C35 hne hown5 hgrow hat HR3 B3
        go_roundw
        case rel => exact ⟨i + 1, n + 1, cap, some ⟨gb, 0, none⟩, by go_num, rfl, by omega, by omega, ALL.out⟩
        case measure => simp [intOf]; omega
    · obtain rfl : i = N := by omega
      have hfin : ps.take i = ps := List.take_of_length_le (by rw [HLEN.out]; exact Nat.le_refl _)
      have RR := hrel.out
      rw [hfin] at RR
      have R2 := Lib.hid RR
      clear RR hfin hrel
      go_wp2
      go_ret
      exact ⟨A, n, c, rfl, by rw [HDEF.out]; exact R2.out.1, R2.out.2.1⟩

theorem StrRow.strs {w : World} {B : Nat} {A : Option Addr} {n c : Nat} {ps : List Str} (h : StrRow w B A n c ps) (hn : n ≤ 1000000) : Strs w A n ps := strs_of_row (by
  refine ⟨h.1, h.2.imp id ?_⟩
  rintro ⟨g, cap, cur, e, _, r⟩
  exact ⟨g, cap, cur, e, Nat.zero_le _, r⟩) hn
theorem Strs.drewN {w : World} {A : Option Addr} {n : Nat} {ps : List Str} (h : Strs w A n ps) (m : Nat) : Strs (w.drewN m) A n ps := ⟨h.len, h.le, h.at_⟩
set_option maxRecDepth 100000 in
theorem texts_any (w : World) (A1 A2 : Option Addr) (n1 c1 n2 c2 : Nat) (ps qs : List Str) (h1 : Strs w A1 n1 ps) (h2 : Strs w A2 n2 qs) :
    Calls Try.prog 30 #[.slice A1 n1 c1, .slice A2 n2 c2] w fun e w' => e = .returned (.bool (decide (ps = qs))) ∧ ∃ m, w' = w.drewN m := by
  have l1 := h1.len
  have l2 := h2.len
  have e1 := h1.le
  have e2 := h2.le
  have H1 := Lib.hid h1
  have H2 := Lib.hid h2
  by_cases hne : n1 = n2
  · subst hne
    generalize hR : decide (ps = qs) = R
    have HR := Lib.hid hR
    have L1 := Lib.hid l1
    have L2 := Lib.hid l2
    clear h1 h2 hR l1 l2
    go_enter Try.func30, Try.ntmps30
    go_wp2
    go_loopw [5] (fun x wr => ∃ i : Nat, x = .int .i64 i ∧ i ≤ n1 ∧ Hid (ps.take i = qs.take i ∧ ∃ m, wr = w.drewN m)) (fun x _ => n1 - (intOf x).toNat)
    case atStart => exact ⟨0, rfl, Nat.zero_le _, rfl, 0, rfl⟩
    case round =>
      obtain ⟨i, rfl, hi, hrel⟩ := hrel
      obtain ⟨htk, m, hm⟩ := hrel.out
      by_cases hlt : i < n1
      · obtain ⟨b1, rfl, hb1, hc1⟩ := H1.out.at_ (by omega)
        obtain ⟨b2, rfl, hb2, hc2⟩ := H2.out.at_ (by omega)
        have d1 : wr.cell? ⟨b1, i, none⟩ = some (.string (S (ps.getD i []))) := by rw [hm]; exact hc1 i hlt
        have d2 : wr.cell? ⟨b2, i, none⟩ = some (.string (S (qs.getD i []))) := by rw [hm]; exact hc2 i hlt
        have hpi : ps[i]? = some (ps.getD i []) := by simp [List.getD, List.getElem?_eq_getElem (show i < ps.length by rw [L1.out]; exact hlt)]
        have hqi : qs[i]? = some (qs.getD i []) := by simp [List.getD, List.getElem?_eq_getElem (show i < qs.length by rw [L2.out]; exact hlt)]
        have s1 := S_toList (ps.getD i [])
        have s2 := S_toList (qs.getD i [])
        generalize ps.getD i [] = p at *
        generalize qs.getD i [] = q at *
        by_cases hpq : p = q
        · have hx : ((S p).toList == (S q).toList) = true := by rw [hpq]; simp
          have hnext : ps.take (i + 1) = qs.take (i + 1) := by rw [List.take_add_one, List.take_add_one, htk, hpi, hqi, hpq]
          have HNX := Lib.hid hnext
          have HM := Lib.hid hm
          clear hnext hm htk hpi hqi hc1 hc2 hrel s1 s2 hpq
          generalize S p = sp at *
          generalize S q = sq at *
          go_wp2_with fail
          go_quiet (fail)
          go_wp2
          go_roundw
          case rel => exact ⟨i + 1, by go_num, by omega, HNX.out, _, by rw [HM.out, World.drewN_drewN]⟩
          case measure => simp [intOf]; omega
        · have hx : ((S p).toList == (S q).toList) = false := by rw [s1, s2]; simpa using hpq
          obtain rfl : R = false := by
            rw [← HR.out]
            simp only [decide_eq_false_iff_not]
            intro e
            rw [e, hqi] at hpi
            exact hpq (Option.some.inj hpi).symm
          have HM := Lib.hid hm
          clear hm htk hpi hqi hc1 hc2 hrel s1 s2 hpq
          generalize S p = sp at *
          generalize S q = sq at *
          go_wp2_with fail
          go_quiet (fail)
          go_wp2
          go_ret
          exact ⟨rfl, _, by rw [HM.out, World.drewN_drewN]⟩
      · obtain rfl : i = n1 := by omega
        rw [List.take_of_length_le (by rw [L1.out]; exact Nat.le_refl _), List.take_of_length_le (by rw [L2.out]; exact Nat.le_refl _)] at htk
        obtain rfl : R = true := by rw [← HR.out]; simpa using htk
        have HM := Lib.hid hm
        clear hm htk hrel
        go_wp2
        go_ret
        exact ⟨rfl, m, HM.out⟩
  · have hd : decide (ps = qs) = false := by
      simp only [decide_eq_false_iff_not]
      intro e
      subst e
      omega
    have hx : ((n1 : Int) != (n2 : Int)) = true := by simp; omega
    rw [hd]
    clear h1 h2 H1 H2 l1 l2 hd hne
    go_enter Try.func30, Try.ntmps30
    go_wp2
    go_ret
    exact ⟨rfl, 0, rfl⟩
end Go.Proofs.Ytodnckflobefpaa

/- The walk of the law WireRuns: three pieces of at most 2,000 bytes. -/
import Derived.Test.YtpgjnmakpghamaaRunsWalk
import Derived.Test.YtpgjnmakpghamaaRow
namespace Go.Proofs.Ytpgjnmakpghamaa
open Go.RowKit
set_option linter.unusedVariables false

/-- Join, of the checksums of two pieces. -/
theorem join_at (l m : List UInt8) (k1 k2 k : Nat) (n : Int) (h1 : chk l = k1) (h2 : chk m = k2) (h : chk (l ++ m) = k) (hn : n = m.length) (hb : n ≤ 100000) (w : World) :
    Calls Try.prog 18 #[.int .u32 k1, .int .u32 k2, .int .i64 n] w fun e w' => e = .returned (.tuple #[.int .u32 k, .int .i64 0]) ∧ w = w' := by
  subst h1 h2 h
  have := join_any (chk l) (chk m) n w (chk_lt l) (chk_lt m) (by omega) (by omega)
  rwa [joinV_chk l m n hn] at this

/-- What stays while the reader in block g reads the bytes L: the row of all bytes. -/
def RunsRel (w wr : World) (B g : Nat) (A : Option Addr) (n c : Nat) (L : List UInt8) (A0 : Option Addr) (n0 c0 : Nat) : Prop :=
  ∃ p er, Rdr wr B g A n c L p er ∧ okErr er ∧ Own wr w.heap.size A0 n0 c0 L ∧ Below w.heap.size w wr
theorem RunsRel.turn {w wr w' : World} {B g n c n0 c0 a2 : Nat} {A A0 : Option Addr} {L : List UInt8} {er2 : Int} {v : Value} {e : Ending} {p : Nat} {er : Int} (h : Rdr wr B g A n c L p er) (ho : Own wr w.heap.size A0 n0 c0 L) (hb : Below w.heap.size w wr) (hB : w.heap.size ≤ B)
    (hr : RdPost wr B g A n c L a2 er2 v e w') : Own w' w.heap.size A0 n0 c0 L ∧ Below w.heap.size w w' := by
  obtain ⟨_, hr2, hg⟩ := hr
  exact ⟨ho.grown hg (.inr (h.blk.own_ne (by decide) ho)), hb.grown hg hb.size fun k hk => by injection hk with hk; subst hk; exact Nat.le_trans hB h.hB⟩
theorem own_none {w : World} {B n c : Nat} {l : List UInt8} (h : Own w B none n c l) : n = 0 ∧ c = 0 := by
  rcases h.2 with ⟨hv, hn0⟩ | ⟨g, cap, cur, hv, _⟩
  · injection hv with _ _ hc0
    exact ⟨hn0, hc0⟩
  · injection hv with hv
    cases hv

theorem Byt.tailR {w : World} {B n c : Nat} {A : Option Addr} {l : List UInt8} (h : Byt w B A n c l) {lo : Nat} (h1 : lo ≤ n) : Byt w B (if c = lo then A else A.map (·.add lo)) (n - lo) (c - lo) (l.drop lo) := by
  have := h.cut (lo := lo) (hi := n) h1 (Nat.le_refl _)
  rwa [List.take_of_length_le (by rw [h.len]; exact Nat.le_refl _)] at this

set_option maxRecDepth 100000 in
set_option maxHeartbeats 20000000 in
theorem runs_in (w : World) (n1 n2 n3 c1 c2 c3 : Nat) (A1 A2 A3 : Option Addr) (m : Int) (l1 l2 l3 : List UInt8) (hb1 : Byt w w.heap.size A1 n1 c1 l1) (hb2 : Byt w w.heap.size A2 n2 c2 l2) (hb3 : Byt w w.heap.size A3 n3 c3 l3)
    (h1 : n1 ≤ 2000) (h2 : n2 ≤ 2000) (h3 : n3 ≤ 2000) (hm1 : -9223372036854775808 ≤ m) (hm2 : m ≤ 9223372036854775807) :
    Calls Try.prog 8 #[.slice A1 n1 c1, .slice A2 n2 c2, .slice A3 n3 c3, .int .i64 m] w (LivesPost w) := by
  have d1 : decide ((2000 : Int) < n1) = false := by simp; omega
  have d2 : decide ((2000 : Int) < n2) = false := by simp; omega
  have d3 : decide ((2000 : Int) < n3) = false := by simp; omega
  obtain ⟨k1, hk1⟩ : ∃ k, chk l1 = k := ⟨_, rfl⟩
  obtain ⟨k2, hk2⟩ : ∃ k, chk l2 = k := ⟨_, rfl⟩
  obtain ⟨k3, hk3⟩ : ∃ k, chk l3 = k := ⟨_, rfl⟩
  obtain ⟨k12, hk12⟩ : ∃ k, chk (l1 ++ l2) = k := ⟨_, rfl⟩
  obtain ⟨k23, hk23⟩ : ∃ k, chk (l2 ++ l3) = k := ⟨_, rfl⟩
  obtain ⟨K, hK⟩ : ∃ k, chk (l1 ++ l2 ++ l3) = k := ⟨_, rfl⟩
  have J1 := Lib.hid (join_at l1 l2 k1 k2 k12 n2 hk1 hk2 hk12 (by rw [hb2.len]) (by omega))
  have J2 := Lib.hid (join_at (l1 ++ l2) l3 k12 k3 K n3 hk12 hk3 hK (by rw [hb3.len]) (by omega))
  have J3 := Lib.hid (join_at l2 l3 k2 k3 k23 n3 hk2 hk3 hk23 (by rw [hb3.len]) (by omega))
  have J4 := Lib.hid (join_at l1 (l2 ++ l3) k1 k23 K ((n2 : Int) + n3) hk1 hk23 (by rw [← List.append_assoc]; exact hK) (by rw [List.length_append, hb2.len, hb3.len]; omega) (by omega))
  have Hb1 := Lib.hid hb1
  have Hb2 := Lib.hid hb2
  have Hb3 := Lib.hid hb3
  have K1 := Lib.hid hk1
  have K2 := Lib.hid hk2
  have K3 := Lib.hid hk3
  have HK := Lib.hid hK
  have hpk := Lib.hid (fun W : World => pick_any m 20 W (by omega) (by omega) hm1 hm2)
  have hp0 := pickOf_lo m 20 (by omega)
  have hp1 := pickOf_hi m 20 (by omega)
  generalize pickOf m 20 = pk at *
  clear hb1 hb2 hb3 hk1 hk2 hk3 hk12 hk23 hK
  go_enter Try.func8, Try.ntmps8
  go_wp2_with fail
  refine (lives_any w).mono ?_
  rintro e w1 ⟨rfl, hb1⟩
  have B1 := Lib.hid hb1
  have hlit : Own (w1.alloc (.cells #[] 5)) w1.heap.size (some ⟨w1.heap.size, 0, none⟩) 0 0 [] := Own.lit w1 #[] [] rfl (Nat.zero_le _)
  have Hlit := Lib.hid hlit
  clear hb1 hlit
  -- all
  go_wp2_with (first
    | (at_builtin
       refine wpList_byte_append rfl (.tmp 41) (.tmp 42) rfl w1.heap.size _ 0 0 [] rfl Hlit.out w.heap.size _ n1 c1 l1 rfl ((Hb1.out.same B1.out).alloc B1.out.size _) (by omega) (by simp) ?_
       intro X2 x2 w2 ho2 hg2 ha2
       rw [Nat.zero_add, List.nil_append] at ho2
       have N2 := Lib.hid (((Below.refl _ _).alloc (Nat.le_refl _) _).grown hg2 (by simp) fun k hk => (World.ownsRow.lt Hlit.out k hk).1 : Below w1.heap.size w1 w2)
       have O2 := Lib.hid ho2
       have B2 := Lib.hid (Below.onR B1.out N2.out)
       clear ho2 hg2 ha2)
    | (at_builtin
       refine wpList_byte_append rfl (.tmp 43) (.tmp 44) rfl w1.heap.size _ n1 x2 _ rfl O2.out w.heap.size _ n2 c2 l2 rfl (Hb2.out.same B2.out) (by omega) N2.out.size ?_
       intro X3 x3 w3 ho3 hg3 ha3
       have N3 := Lib.hid (N2.out.grown hg3 N2.out.size fun k hk => (World.ownsRow.lt O2.out k hk).1 : Below w1.heap.size w1 w3)
       have O3 := Lib.hid ho3
       have B3 := Lib.hid (Below.onR B1.out N3.out)
       clear ho3 hg3 ha3 O2 N2 B2)
    | (at_builtin
       refine wpList_byte_append rfl (.tmp 45) (.tmp 46) rfl w1.heap.size _ (n1 + n2) x3 _ rfl O3.out w.heap.size _ n3 c3 l3 rfl (Hb3.out.same B3.out) (by omega) N3.out.size ?_
       intro X4 x4 w4 ho4 hg4 ha4
       have B4 := Lib.hid (Below.onR B1.out (N3.out.grown hg4 N3.out.size fun k hk => (World.ownsRow.lt O3.out k hk).1))
       have O4 := Lib.hid (ho4.more B1.out.size : Own w4 w.heap.size X4 (n1 + n2 + n3) x4 (l1 ++ l2 ++ l3))
       clear ho4 hg4 ha4 O3 N3 B3))
  have hN : n1 + n2 + n3 ≤ 6000 := by omega
  generalize n1 + n2 + n3 = N at *
  have HKL : Hid (chk (l1 ++ l2 ++ l3) = K) := HK
  generalize hL : l1 ++ l2 ++ l3 = L at *
  clear B1 Hlit hL HK
  -- the three sums
  go_wp2_with fail
  refine (own_any w4 w.heap.size n1 c1 A1 l1 (Hb1.out.same B4.out) B4.out.size (by omega)).mono ?_
  rintro e w5 ⟨Y5, y5, rfl, ho5, -, hb5⟩
  go_wp2_with fail
  refine (sum_at w5 w5.heap.size Y5 n1 y5 l1 ho5.byt (Nat.le_refl _) (by omega)).mono ?_
  rintro e w6 ⟨rfl, hb6⟩
  rw [K1.out]
  have B6 := Lib.hid (Below.onR (Below.onR B4.out hb5) hb6)
  have O6 := Lib.hid ((O4.out.below hb5).below hb6)
  clear ho5 hb5 hb6 B4 O4
  go_wp2_with fail
  refine (own_any w6 w.heap.size n2 c2 A2 l2 (Hb2.out.same B6.out) B6.out.size (by omega)).mono ?_
  rintro e w7 ⟨Y7, y7, rfl, ho7, -, hb7⟩
  go_wp2_with fail
  refine (sum_at w7 w7.heap.size Y7 n2 y7 l2 ho7.byt (Nat.le_refl _) (by omega)).mono ?_
  rintro e w8 ⟨rfl, hb8⟩
  rw [K2.out]
  have B8 := Lib.hid (Below.onR (Below.onR B6.out hb7) hb8)
  have O8 := Lib.hid ((O6.out.below hb7).below hb8)
  clear ho7 hb7 hb8 B6 O6
  go_wp2_with fail
  refine (own_any w8 w.heap.size n3 c3 A3 l3 (Hb3.out.same B8.out) B8.out.size (by omega)).mono ?_
  rintro e w9 ⟨Y9, y9, rfl, ho9, -, hb9⟩
  go_wp2_with fail
  refine (sum_at w9 w9.heap.size Y9 n3 y9 l3 ho9.byt (Nat.le_refl _) (by omega)).mono ?_
  rintro e w10 ⟨rfl, hb10⟩
  rw [K3.out]
  have B10 := Lib.hid (Below.onR (Below.onR B8.out hb9) hb10)
  have O10 := Lib.hid ((O8.out.below hb9).below hb10)
  clear ho9 hb9 hb10 B8 O8
  -- the four joins
  go_wp2_with fail
  refine (J1.out w10).mono ?_
  rintro e w' ⟨rfl, rfl⟩
  go_wp2_with fail
  refine (J2.out w10).mono ?_
  rintro e w' ⟨rfl, rfl⟩
  go_wp2_with fail
  refine (J3.out w10).mono ?_
  rintro e w' ⟨rfl, rfl⟩
  go_wp2_with fail
  refine (J4.out w10).mono ?_
  rintro e w' ⟨rfl, rfl⟩
  clear J1 J2 J3 J4
  go_wp2_with fail
  refine (own_any w10 w10.heap.size N x4 X4 L O10.out.byt (Nat.le_refl _) (by omega)).mono ?_
  rintro e w11 ⟨Y11, y11, rfl, ho11, -, hb11⟩
  go_wp2_with fail
  refine (sum_at w11 w11.heap.size Y11 N y11 L ho11.byt (Nat.le_refl _) (by omega)).mono ?_
  rintro e w12 ⟨rfl, hb12⟩
  rw [HKL.out]
  have B12 := Lib.hid (Below.onR (Below.onR B10.out hb11) hb12)
  have O12 := Lib.hid ((O10.out.below hb11).below hb12)
  clear ho11 hb11 hb12 B10 O10
  -- the reader
  go_wp2_with fail
  refine (own_any w12 w12.heap.size N x4 X4 L O12.out.byt (Nat.le_refl _) (by omega)).mono ?_
  rintro e w13 ⟨Y13, y13, rfl, ho13, hz13, hb13⟩
  go_wp2_with fail
  refine (new_any w13 w13.heap.size N y13 Y13 L ho13.byt (Nat.le_refl _) hz13 (by omega)).mono ?_
  rintro e w14 ⟨g, A, n, c, rfl, hr14, hb14⟩
  have B14 := Lib.hid (Below.onR (Below.onR B12.out hb13) hb14)
  have O14 := Lib.hid ((O12.out.below hb13).below hb14)
  obtain rfl : N = n := by rw [← hr14.own.len, O14.out.len]
  have Hr14 := Lib.hid hr14
  have hB : w.heap.size ≤ w13.heap.size := Nat.le_trans B12.out.size hb13.size
  generalize w13.heap.size = B at *
  clear ho13 hz13 hb13 hb14 B12 O12 hr14
  go_wp2
  have hstart : RunsRel w w14 B g A N c L X4 N x4 := ⟨0, 0, Hr14.out, .inl rfl, O14.out, B14.out⟩
  have Hst := Lib.hid hstart
  clear hstart Hr14 B14 O14
  go_loopw [20] (fun x wr => ∃ i : Nat, x = .int .i64 i ∧ (i : Int) ≤ pk ∧ RunsRel w wr B g A N c L X4 N x4) (fun x _ => (pk - intOf x).toNat)
  case atStart => exact ⟨0, rfl, hp0, Hst.out⟩
  case round =>
    obtain ⟨i, rfl, hi, p, er, hr, he, ho, hb⟩ := hrel
    have Hr := Lib.hid hr
    have He := Lib.hid he
    have Ho := Lib.hid ho
    have Hb := Lib.hid hb
    clear hr he ho hb Hst
    by_cases hlt : (i : Int) < pk
    · go_wp2_with fail
      refine (hpk.out _).mono ?_
      rintro e w' ⟨rfl, rfl⟩
      go_wp2_with fail
      refine (rd_number wr B g N c p A L er Hr.out).mono ?_
      rintro e w15 hpost
      obtain ⟨ho2, hb2⟩ := RunsRel.turn Hr.out Ho.out Hb.out hB hpost
      obtain ⟨rfl, hr2, hg2⟩ := hpost
      have hrel2 : RunsRel w w15 B g A N c L X4 N x4 := ⟨_, _, hr2, numA_err L p er He.out, ho2, hb2⟩
      have Hrel2 := Lib.hid hrel2
      clear hrel2 ho2 hb2 hr2 hg2 Hr He Ho Hb
      go_wp2
      go_roundw
      case rel => exact ⟨i + 1, by go_num, by omega, Hrel2.out⟩
      case measure => simp [intOf]; omega
    · go_wp2_with fail
      refine (hpk.out _).mono ?_
      rintro e w' ⟨rfl, rfl⟩
      by_cases her : er = 0
      · subst her
        go_wp2_with fail
        refine (rd_err wr B g N c p A L 0 Hr.out).mono ?_
        rintro e w' ⟨rfl, rfl⟩
        go_wp2_with fail
        refine (rd_left wr B g N c p A L 0 (by decide) Hr.out).mono ?_
        rintro e w15 ⟨rfl, q, rfl⟩
        have hp : p ≤ N := Hr.out.hat
        have hx4 := Ho.out.byt.le
        have e1 : IntKind.i64.wrap ((N : Int) - ((N - p : Nat) : Int)) = (p : Int) := by rw [IntWalk.i64_in _ (by omega)]; omega
        have HT0 : Hid (Byt (wr.drewN q) wr.heap.size (if x4 = p then X4 else X4.map (·.add p)) (N - p) (x4 - p) (L.drop p)) := (Ho.out.byt.tailR hp).keep fun _ _ => rfl
        have hlenL : L.length = N := Ho.out.len
        have HlenL := Lib.hid hlenL
        have Hok : Hid (p ≤ N) := hp
        clear hlenL
        by_cases hx0 : x4 = p
        case' pos =>
          have HT1 := HT0.out
          rw [if_pos hx0, hx0, Nat.sub_self] at HT1
        case' neg =>
          have HT1 := HT0.out
          rw [if_neg hx0] at HT1
        all_goals
          have HT := Lib.hid HT1
          clear HT1
          go_wp2_with fail
          refine (own_any (wr.drewN q) wr.heap.size (N - p) _ _ (L.drop p) HT.out (Nat.le_refl _) (by omega)).mono ?_
          rintro e w16 ⟨Y16, y16, rfl, ho16, hz16, hb16⟩
          clear HT HT0
          go_wp2_with fail
          refine (new_any w16 w16.heap.size (N - p) y16 Y16 (L.drop p) ho16.byt (Nat.le_refl _) hz16 (by omega)).mono ?_
          rintro e w17 ⟨g2, A', n', c', rfl, hs17, hb17⟩
          have hn' : n' = N - p := by rw [← hs17.own.len, List.length_drop, HlenL.out]
          have hr16 := (Hr.out.drewN q).below hb16
          have hB2 : w.heap.size ≤ w16.heap.size := (Below.onR (below_drewN Hb.out q) hb16).size
          have hgg : g ≠ g2 := by
            have h1 := hr16.blk.lt
            have h2 := hs17.hB
            omega
          have B17 : Hid (Below w.heap.size w w17) := Below.onR (Below.onR (below_drewN Hb.out q) hb16) hb17
          have hr17 := hr16.below hb17
          obtain ⟨P1, hP1⟩ : ∃ P, pcsA L p 0 = P := ⟨_, rfl⟩
          obtain ⟨P2, hP2⟩ : ∃ P, pcsA (L.drop p) 0 0 = P := ⟨_, rfl⟩
          have hrest := pcsA_rest L p 0 0
          have herr := pcsA_err L p 0 (.inl rfl)
          have hc1 := rd_piece w17 B g N c p A L 0 hr17
          rw [Nat.add_zero] at hrest
          rw [hP1] at hrest herr hc1
          rw [hP2] at hrest
          obtain ⟨S1, q1, er1⟩ := P1
          obtain ⟨S2, q2, er2⟩ := P2
          simp only at hrest herr hc1
          obtain ⟨rfl, rfl, rfl⟩ := hrest
          have Hc1 := Lib.hid hc1
          have Hs17 := Lib.hid hs17
          have Hr17 := Lib.hid hr17
          have HP2 := Lib.hid hP2
          have Herr := Lib.hid herr
          have Hn' := Lib.hid hn'
          clear hc1 hs17 hr17 hP1 hP2 herr hn' hb17 hb16 hr16 ho16 hz16 Hr Ho Hb
          go_wp2_with fail
          refine Hc1.out.mono ?_
          rintro e w18 ⟨rfl, hr18, hg18⟩
          have hs18 := Hs17.out.grown hg18 (fun h => hgg (by injection h with h; exact h.symm)) (.inr (Hr17.out.blk.own_ne (by decide) Hs17.out.own))
          have B18 : Hid (Below w.heap.size w w18) := B17.out.grown hg18 B17.out.size fun k hk => by injection hk with hk; subst hk; exact Nat.le_trans hB Hr17.out.hB
          have hc2 := rd_piece w18 w16.heap.size g2 n' c' 0 A' (L.drop p) 0 hs18
          rw [HP2.out] at hc2
          simp only at hc2
          have Hc2 := Lib.hid hc2
          have Hr18 := Lib.hid hr18
          have Hs18 := Lib.hid hs18
          clear hc2 hr18 hs18 hg18 B17 Hr17 Hs17 Hc1
          go_wp2_with fail
          refine Hc2.out.mono ?_
          rintro e w19 ⟨rfl, hs19, hg19⟩
          have hr19 := Hr18.out.grown hg19 (fun h => hgg (by injection h)) (.inr (Hs18.out.blk.own_ne (by decide) Hr18.out.own))
          have B19 : Hid (Below w.heap.size w w19) := B18.out.grown hg19 B18.out.size fun k hk => by injection hk with hk; subst hk; exact Nat.le_trans hB2 Hs18.out.hB
          obtain ⟨P3, hP3⟩ : ∃ P, numA L (p + q2) er2 = P := ⟨_, rfl⟩
          obtain ⟨P4, hP4⟩ : ∃ P, numA (L.drop p) q2 er2 = P := ⟨_, rfl⟩
          have hrest := numA_rest L p q2 er2
          have herr := numA_err L (p + q2) er2 Herr.out
          have hc3 := rd_number w19 B g N c (p + q2) A L er2 hr19
          rw [hP3] at hrest herr hc3
          rw [hP4] at hrest
          obtain ⟨U1, q3, er3⟩ := P3
          obtain ⟨U2, q4, er4⟩ := P4
          simp only at hrest herr hc3
          obtain ⟨rfl, rfl, rfl⟩ := hrest
          have hne : er4 ≠ 1 := by unfold okErr at herr; omega
          have Hc3 := Lib.hid hc3
          have HP4 := Lib.hid hP4
          have Hne := Lib.hid hne
          have Hs19 := Lib.hid hs19
          have Hr19 := Lib.hid hr19
          clear hc3 hP3 hP4 herr hne hs19 hr19 hg19 Hs18 Hr18 B18 Hc2 Herr HP2
          go_wp2_with fail
          refine Hc3.out.mono ?_
          rintro e w20 ⟨rfl, hr20, hg20⟩
          have hs20 := Hs19.out.grown hg20 (fun h => hgg (by injection h with h; exact h.symm)) (.inr (Hr19.out.blk.own_ne (by decide) Hs19.out.own))
          have B20 : Hid (Below w.heap.size w w20) := B19.out.grown hg20 B19.out.size fun k hk => by injection hk with hk; subst hk; exact Nat.le_trans hB Hr19.out.hB
          have hc4 := rd_number w20 w16.heap.size g2 n' c' q2 A' (L.drop p) er2 hs20
          rw [HP4.out] at hc4
          simp only at hc4
          have Hc4 := Lib.hid hc4
          have Hr20 := Lib.hid hr20
          have Hs20 := Lib.hid hs20
          clear hc4 hr20 hs20 hg20 B19 Hr19 Hs19 Hc3 HP4
          go_wp2_with fail
          refine Hc4.out.mono ?_
          rintro e w21 ⟨rfl, hs21, hg21⟩
          have hr21 := Hr20.out.grown hg21 (fun h => hgg (by injection h)) (.inr (Hs20.out.blk.own_ne (by decide) Hr20.out.own))
          have B21 : Hid (Below w.heap.size w w21) := B20.out.grown hg21 B20.out.size fun k hk => by injection hk with hk; subst hk; exact Nat.le_trans hB2 Hs20.out.hB
          have hat1 := hr21.hat
          have hat2 := hs21.hat
          have hleft : n' - q4 = N - (p + q4) := by rw [Hn'.out]; omega
          have hend : endOf n' q4 er4 = endOf N (p + q4) er4 := by
            unfold endOf
            have hlt2 : q4 < n' ↔ p + q4 < N := by rw [Hn'.out]; omega
            simp only [hlt2]
          obtain ⟨V, hV⟩ : ∃ V, endOf N (p + q4) er4 = V := ⟨_, rfl⟩
          obtain ⟨R, hR⟩ : ∃ R, N - (p + q4) = R := ⟨_, rfl⟩
          rw [hR] at hleft
          rw [hV] at hend
          have Hleft := Lib.hid hleft
          have Hend := Lib.hid hend
          have HV := Lib.hid hV
          have HR := Lib.hid hR
          have Hr21 := Lib.hid hr21
          have Hs21 := Lib.hid hs21
          clear hr21 hs21 hg21 hat1 hat2 hleft hend hV hR B20 Hr20 Hs20 Hc4
          go_wp2_with fail
          refine (rd_err w21 B g N c (p + q4) A L er4 Hr21.out).mono ?_
          rintro e w' ⟨rfl, rfl⟩
          go_wp2_with fail
          refine (rd_err w21 w16.heap.size g2 n' c' q4 A' (L.drop p) er4 Hs21.out).mono ?_
          rintro e w' ⟨rfl, rfl⟩
          go_wp2_with fail
          refine (rd_left w21 B g N c (p + q4) A L er4 Hne.out Hr21.out).mono ?_
          rintro e w22 ⟨rfl, q5, rfl⟩
          rw [HR.out]
          go_wp2_with fail
          refine (rd_left (w21.drewN q5) w16.heap.size g2 n' c' q4 A' (L.drop p) er4 Hne.out (Hs21.out.drewN q5)).mono ?_
          rintro e w' ⟨rfl, q6, rfl⟩
          rw [Hleft.out]
          go_wp2_with fail
          refine (rd_end (w21.drewN (q5 + q6)) B g N c (p + q4) A L er4 (Hr21.out.drewN (q5 + q6))).mono ?_
          rintro e w' ⟨rfl, q7, rfl⟩
          rw [HV.out]
          go_wp2_with fail
          refine (rd_end (w21.drewN (q5 + q6 + q7)) w16.heap.size g2 n' c' q4 A' (L.drop p) er4 (Hs21.out.drewN (q5 + q6 + q7))).mono ?_
          rintro e w' ⟨rfl, q8, rfl⟩
          rw [Hend.out]
          go_wp2
          go_ret
          exact ⟨rfl, below_drewN B21.out (q5 + q6 + q7 + q8)⟩
      · have eb : (er == 0) = false := by simpa using her
        have eb2 : (er != 0) = true := by simpa using her
        have Her := Lib.hid her
        clear her
        go_wp2_with fail
        refine (rd_err wr B g N c p A L er Hr.out).mono ?_
        rintro e w' ⟨rfl, rfl⟩
        go_wp2_with fail
        refine (rd_number1 wr B g N c p A L er Her.out Hr.out).mono ?_
        rintro e w15 hpost
        obtain ⟨ho2, hb2⟩ := RunsRel.turn Hr.out Ho.out Hb.out hB hpost
        obtain ⟨rfl, hr2, hg2⟩ := hpost
        clear hg2
        go_wp2_with fail
        refine (rd_piece1 w15 B g N c p A L er Her.out hr2).mono ?_
        rintro e w16 hpost
        obtain ⟨ho3, hb3⟩ := RunsRel.turn hr2 ho2 hb2 hB hpost
        obtain ⟨rfl, hr3, hg3⟩ := hpost
        clear hg3 ho3 hr3 hr2 ho2 hb2
        go_wp2
        go_ret
        exact ⟨rfl, hb3⟩

theorem runs_any (w : World) (n1 n2 n3 c1 c2 c3 : Nat) (A1 A2 A3 : Option Addr) (m : Int) (l1 l2 l3 : List UInt8) (hb1 : Byt w w.heap.size A1 n1 c1 l1) (hb2 : Byt w w.heap.size A2 n2 c2 l2) (hb3 : Byt w w.heap.size A3 n3 c3 l3)
    (hm : (Lit.int .i64 m).wf = true) :
    Calls Try.prog 8 #[.slice A1 n1 c1, .slice A2 n2 c2, .slice A3 n3 c3, .int .i64 m] w (LivesPost w) := by
  have b1 := hb1.cap
  have b2 := hb2.cap
  have b3 := hb3.cap
  have e1 := hb1.le
  have e2 := hb2.le
  have e3 := hb3.le
  unfold maxLen at b1 b2 b3
  by_cases h : 2000 < n1 ∨ 2000 < n2 ∨ 2000 < n3
  · exact runs_out w n1 n2 n3 c1 c2 c3 A1 A2 A3 m (by omega) (by omega) (by omega) h
  · exact runs_in w n1 n2 n3 c1 c2 c3 A1 A2 A3 m l1 l2 l3 hb1 hb2 hb3 (by omega) (by omega) (by omega) (wfi64 hm).1 (wfi64 hm).2
end Go.Proofs.Ytpgjnmakpghamaa

/- The walk of the law WireReads: at most 5,000 bytes and 500 acts. -/
import Derived.Test.YtpgjnmakpghamaaReadsPure
namespace Go.Proofs.Ytpgjnmakpghamaa
open Go.RowKit
set_option linter.unusedVariables false

set_option maxRecDepth 100000 in
set_option maxHeartbeats 20000000 in
theorem reads_in (w : World) (n1 c1 n2 c2 : Nat) (A1 A2 : Option Addr) (l : List UInt8) (hb : Byt w w.heap.size A1 n1 c1 l) (ha : Acts w A2 n2 c2) (h1 : n1 ≤ 5000) (h2 : n2 ≤ 500) :
    Calls Try.prog 5 #[.slice A1 n1 c1, .slice A2 n2 c2] w (LivesPost w) := by
  have d1 : decide ((5000 : Int) < n1) = false := by simp; omega
  have d2 : decide ((500 : Int) < n2) = false := by simp; omega
  have Hb := Lib.hid hb
  have Ha := Lib.hid ha
  have hle := ha.le
  have hcap := ha.cap
  unfold maxLen at hcap
  clear hb ha
  go_enter Try.func5, Try.ntmps5
  go_wp2_with fail
  refine (lives_any w).mono ?_
  rintro e w1 ⟨rfl, hb1⟩
  have B1 := Lib.hid hb1
  clear hb1
  go_wp2_with fail
  refine (own_any w1 w.heap.size n1 c1 A1 l (Hb.out.same B1.out) B1.out.size (by omega)).mono ?_
  rintro e w2 ⟨Y2, y2, rfl, ho2, hz2, hb2⟩
  have B2 := Lib.hid (Below.onR B1.out hb2)
  clear hb2
  go_wp2_with fail
  refine (new_any w2 w2.heap.size n1 y2 Y2 l ho2.byt (Nat.le_refl _) hz2 (by omega)).mono ?_
  rintro e w3 ⟨g, A, n, c, rfl, hr3, hb3⟩
  obtain rfl : n = n1 := by rw [← hr3.own.len, ho2.len]
  have B3 := Lib.hid (Below.onR B2.out hb3)
  have R3 := Lib.hid hr3
  clear hb3 hr3 ho2 hz2
  go_wp2_with fail
  refine (dnew_any w3 w.heap.size n c1 A1 l (Hb.out.same B3.out) B3.out.size (by omega)).mono ?_
  rintro e w4 ⟨g2, D, c4, rfl, hd4, hb4⟩
  have hgg : g ≠ g2 := by
    have e1 := R3.out.blk.lt
    have e2 := hd4.hB
    omega
  have hs2 : w.heap.size ≤ w2.heap.size := B2.out.size
  have hs3 : w.heap.size ≤ w3.heap.size := B3.out.size
  have hboth : Both w w4 w2.heap.size g A c w3.heap.size g2 D c4 n l 0 0 := ⟨R3.out.below hb4, hd4, .inl rfl, Below.onR B3.out hb4, hgg, hs2, hs3⟩
  have Hst := Lib.hid hboth
  generalize w2.heap.size = Br at *
  generalize w3.heap.size = Bd at *
  clear hboth hgg hb4 hd4 R3 B3 B2 B1 hs2 hs3
  go_wp2
  go_loopw [7] (fun x wr => ∃ i : Nat, x = .int .i64 i ∧ i ≤ n2 ∧ ∃ p er, Both w wr Br g A c Bd g2 D c4 n l p er) (fun x _ => n2 - (intOf x).toNat)
  case atStart => exact ⟨0, rfl, Nat.zero_le _, _, _, Hst.out⟩
  case round =>
    obtain ⟨i, rfl, hi, p, er, hboth⟩ := hrel
    have Hbo := Lib.hid hboth
    clear hboth Hst
    by_cases hlt : i < n2
    · obtain ⟨b, o, rfl, hbl, hc⟩ := Ha.out.lies (by omega)
      obtain ⟨K, M, hk, hm, hk1, hk2, hm2⟩ := hc i hlt
      have hk3 := (Hbo.out.below.cell (p := ⟨b, o + i * 2, none⟩) hbl).trans hk
      have hpk := Lib.hid (pick_any K 3 wr (by omega) (by omega) hk1 hk2)
      have hp0 := pickOf_lo K 3 (by omega)
      have hp1 := pickOf_hi K 3 (by omega)
      have Hm := Lib.hid hm
      clear hc hk hm hk1 hk2
      generalize pickOf K 3 = pk at *
      go_wp2_with fail
      refine hpk.out.mono ?_
      rintro e w' ⟨rfl, rfl⟩
      have e0 : pk = 0 ∨ pk = 1 ∨ pk = 2 := by omega
      clear hp0 hp1 hpk hk3
      rcases e0 with e0 | e0 | e0
      case' inl =>
        subst e0
        obtain ⟨P, hP⟩ : ∃ P, numA l p er = P := ⟨_, rfl⟩
        have herr := numA_err l p er Hbo.out.ok
        have hc1 := rd_number wr Br g n c p A l er Hbo.out.r
        have hc2 : ∀ wx, DRdr wx Bd g2 D n c4 l p er → _ := fun wx h => dn_number wx Bd g2 n c4 p D l er h
        rw [hP] at herr hc1
        simp only [hP] at hc2
        obtain ⟨X, p', er'⟩ := P
        simp only at herr hc1 hc2
        have Hc1 := Lib.hid hc1
        have Hc2 := Lib.hid hc2
        have Herr := Lib.hid herr
        have HP := Lib.hid hP
        clear hP herr hc1 hc2
        go_wp2_with fail
        refine Hc1.out.mono ?_
        rintro e wx hp
        have Hmid := Lib.hid (Hbo.out.first hp)
        obtain ⟨rfl, -, -⟩ := hp
        go_wp2_with fail
        refine (Hc2.out wx Hmid.out.d).mono ?_
        rintro e wy hp
        have Hbo2 := Lib.hid (Hmid.out.second hp Herr.out)
        obtain ⟨rfl, -, -⟩ := hp
        clear Hc1 Hc2 Hmid Hbo
      case' inr.inl =>
        subst e0
        obtain ⟨P, hP⟩ : ∃ P, pcsA l p er = P := ⟨_, rfl⟩
        have herr := pcsA_err l p er Hbo.out.ok
        have hc1 := rd_piece wr Br g n c p A l er Hbo.out.r
        have hc2 : ∀ wx, DRdr wx Bd g2 D n c4 l p er → _ := fun wx h => dn_piece wx Bd g2 n c4 p D l er h
        rw [hP] at herr hc1
        simp only [hP] at hc2
        obtain ⟨X, p', er'⟩ := P
        simp only at herr hc1 hc2
        have Hc1 := Lib.hid hc1
        have Hc2 := Lib.hid hc2
        have Herr := Lib.hid herr
        have HP := Lib.hid hP
        clear hP herr hc1 hc2
        go_wp2_with fail
        refine Hc1.out.mono ?_
        rintro e wx hp
        have Hmid := Lib.hid (Hbo.out.first hp)
        obtain ⟨rfl, -, -⟩ := hp
        go_wp2_with fail
        refine (Hc2.out wx Hmid.out.d).mono ?_
        rintro e wy hp
        have Hbo2 := Lib.hid (Hmid.out.second hp Herr.out)
        obtain ⟨rfl, -, -⟩ := hp
        clear Hc1 Hc2 Hmid Hbo
      case' inr.inr =>
        subst e0
        obtain ⟨P, hP⟩ : ∃ P, cntA l M.toNat p er = P := ⟨_, rfl⟩
        have herr := cntA_err l M.toNat p er Hbo.out.ok
        have hc1 := rd_count wr Br g n c p A l er M hm2 Hbo.out.r
        have hc2 : ∀ wx, DRdr wx Bd g2 D n c4 l p er → _ := fun wx h => dn_count wx Bd g2 n c4 p D l er M hm2 h
        rw [hP] at herr hc1
        simp only [hP] at hc2
        obtain ⟨X, p', er'⟩ := P
        simp only at herr hc1 hc2
        have Hc1 := Lib.hid hc1
        have Hc2 := Lib.hid hc2
        have Herr := Lib.hid herr
        have HP := Lib.hid hP
        clear hP herr hc1 hc2
        have hmr : ∀ wx : World, Below w.heap.size w wx → wx.cell? ⟨b, o + i * 2 + 1, none⟩ = some (.int .i64 M) := fun wx h => (h.cell (p := ⟨b, o + i * 2 + 1, none⟩) hbl).trans Hm.out
        have Hmr := Lib.hid hmr
        have m1 := hmr _ Hbo.out.below
        have m1' : wr.drew.cell? ⟨b, o + i * 2 + 1, none⟩ = some (.int .i64 M) := m1
        have hbod := Hbo.out.drew
        have hc1d := rd_count wr.drew Br g n c p A l er M hm2 hbod.r
        rw [HP.out] at hc1d
        have Hc1d := Lib.hid hc1d
        have Hbod := Lib.hid hbod
        clear hmr hc1d hbod
        go_upto_region 17 with fail
        go_cut [65] (fun s wx => s = .bool false ∧ Both w wx Br g A c Bd g2 D c4 n l p' er')
        case first =>
          go_region_with (first
            | (go_at_call 31; (with_reducible refine Hc1d.out.mono ?_); rintro e wx hp
               have Hmid := Lib.hid (Hbod.out.first hp)
               have m2 := Hmr.out _ Hmid.out.below
               obtain ⟨rfl, -, -⟩ := hp)
            | (go_at_call 32; (with_reducible refine (Hc2.out wx Hmid.out.d).mono ?_); rintro e wy hp
               have Hbo2 := Lib.hid (Mid.second Hmid.out hp Herr.out)
               obtain ⟨rfl, -, -⟩ := hp))
          all_goals (go_wp2_with fail; go_meet; exact ⟨rfl, Hbo2.out⟩)
        case' rest =>
          obtain ⟨rfl, hbo2⟩ := hcut
          have Hbo2 := Lib.hid hbo2
          clear hbo2 Hc1 Hc1d Hc2 Hbod Hbo Hmr m1 m1'
      all_goals
        have hne : er' ≠ 1 := by
          have := Hbo2.out.ok
          unfold okErr at this
          omega
        have r2 := Hbo2.out.d.c2
        have hl1 := fun q => rd_left _ Br g n c p' A l er' hne (Hbo2.out.r.drewN q)
        have hl2 := fun q => dleft_any _ Bd g2 n c4 p' D l er' (Hbo2.out.d.drewN q)
        have he1 := fun q => rd_err _ Br g n c p' A l er' (Hbo2.out.r.drewN q)
        have hz1 := fun q => rd_end _ Br g n c p' A l er' (Hbo2.out.r.drewN q)
        have hz2 := fun q => dend_any _ Bd g2 n c4 p' D l er' (Hbo2.out.d.drewN q)
        generalize n - p' = R at hl1 hl2
        generalize endOf n p' er' = V at hz1 hz2
        have Hl1 := Lib.hid hl1
        have Hl2 := Lib.hid hl2
        have He1 := Lib.hid he1
        have Hz1 := Lib.hid hz1
        have Hz2 := Lib.hid hz2
        clear hl1 hl2 he1 hz1 hz2 hne
        go_upto_region 19 with fail
        go_quiet ((first
          | (go_at_call 33; exact quiet_more0 (Hl1.out _))
          | (go_at_call 34; exact quiet_more0 (Hl2.out _))
          | (go_at_call 14; exact quiet_stay0 (He1.out _))
          | (go_at_call 35; exact quiet_more0 (Hz1.out _))
          | (go_at_call 36; exact quiet_more0 (Hz2.out _))))
        go_wp2
        go_roundw
        case rel => exact ⟨i + 1, by go_num, by omega, p', er', Hbo2.out.drewN _⟩
        case measure => simp [intOf]; omega
    · obtain rfl : i = n2 := by omega
      have hz1 := rd_end _ Br g n c p A l er Hbo.out.r
      have hz2 := fun q => dend_any _ Bd g2 n c4 p D l er (Hbo.out.d.drewN q)
      generalize endOf n p er = V at hz1 hz2
      have Hz1 := Lib.hid hz1
      have Hz2 := Lib.hid hz2
      clear hz1 hz2
      go_wp2_with fail
      refine Hz1.out.mono ?_
      rintro e w' ⟨rfl, q1, rfl⟩
      go_wp2_with fail
      refine (Hz2.out q1).mono ?_
      rintro e w' ⟨rfl, q2, rfl⟩
      go_wp2
      go_ret
      exact ⟨rfl, below_drewN Hbo.out.below (q1 + q2)⟩

theorem reads_out (w : World) (n1 c1 n2 c2 : Nat) (A1 A2 : Option Addr) (h1 : n1 ≤ 9223372036854775807) (h2 : n2 ≤ 9223372036854775807) (hbig : 5000 < n1 ∨ 500 < n2) :
    Calls Try.prog 5 #[.slice A1 n1 c1, .slice A2 n2 c2] w (LivesPost w) := by
  by_cases hn : 5000 < n1
  · have d1 : decide ((5000 : Int) < n1) = true := by simp; omega
    go_enter Try.func5, Try.ntmps5
    go_wp2_with fail
    refine (lives_any w).mono ?_
    rintro e w1 ⟨rfl, hb1⟩
    go_wp2
    go_ret
    exact ⟨rfl, hb1⟩
  · have d1 : decide ((5000 : Int) < n1) = false := by simp; omega
    have d2 : decide ((500 : Int) < n2) = true := by simp; omega
    go_enter Try.func5, Try.ntmps5
    go_wp2_with fail
    refine (lives_any w).mono ?_
    rintro e w1 ⟨rfl, hb1⟩
    go_wp2
    go_ret
    exact ⟨rfl, hb1⟩

theorem reads_any (w : World) (n1 c1 n2 c2 : Nat) (A1 A2 : Option Addr) (l : List UInt8) (hb : Byt w w.heap.size A1 n1 c1 l) (ha : Acts w A2 n2 c2) :
    Calls Try.prog 5 #[.slice A1 n1 c1, .slice A2 n2 c2] w (LivesPost w) := by
  have b1 := hb.cap
  have e1 := hb.le
  have b2 := ha.cap
  have e2 := ha.le
  unfold maxLen at b1 b2
  by_cases h : 5000 < n1 ∨ 500 < n2
  · exact reads_out w n1 c1 n2 c2 A1 A2 (by omega) (by omega) h
  · exact reads_in w n1 c1 n2 c2 A1 A2 l hb ha (by omega) (by omega)
end Go.Proofs.Ytpgjnmakpghamaa

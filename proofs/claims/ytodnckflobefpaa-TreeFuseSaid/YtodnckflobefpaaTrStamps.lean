/- The walk of the law TreeStamps. -/
import Derived.Test.YtodnckflobefpaaTrStamp
namespace Go.Proofs.Ytodnckflobefpaa
open Go.RowKit Go.Maps
set_option linter.unusedVariables false

theorem Liv.up {w W : World} {tb k m : Nat} {s : St} (h : Liv w tb s k W) (hm : k ≤ m) : Liv w tb s m W := ⟨h.ex, h.nx, h.good.up hm⟩
theorem Liv.up2 {w W : World} {tb i : Nat} {s : St} (h : Liv w tb s (2 * i + 2) W) : Liv w tb s (2 * (i + 1)) W := h.up (by omega)
theorem Liv.fs {w W : World} {tb k : Nat} {s : St} (h : Liv w tb s k W) : ∀ e ∈ s.files, e.2 < s.fil.length := h.good.ok.fs
theorem stm_new (room : Int) : Stm (St.new room) := ⟨fun i hi => absurd hi (Nat.not_lt_zero _), fun i j hi => absurd hi (Nat.not_lt_zero _)⟩
set_option maxRecDepth 100000 in
set_option maxHeartbeats 8000000 in
theorem stamps_any (w : World) (room : Int) (A : Option Addr) (n c : Nat) (l : Nat → Ac) (p : Str) (hl : Acts w A n c l) (hi : ∀ i, i < n → ActIn w (l i)) :
    Calls Try.prog 6 #[.int .i64 room, .slice A n c, .string (S p)] w fun e w' => e = .returned (.bool true) ∧ Below w.heap.size w w' := by
  have YL := Lib.hid (fun W => lives_any W)
  have SM : Hid (∀ W, Nx w W → _) := fun W hx => small_any W A n c l (hl.nx hx) (fun i h => ⟨(hi i h).n, (hi i h).n4⟩)
  have HL := Lib.hid hl
  have HIN := Lib.hid hi
  have hle := hl.le
  have hcap := hl.cap
  unfold maxLen at hcap
  have hpz : (S p).size = p.length := S_size p
  obtain ⟨sp, hsp⟩ : ∃ sp, S p = sp := ⟨_, rfl⟩
  rw [hsp] at hpz ⊢
  have HSP := Lib.hid hsp
  have HPZ := Lib.hid hpz
  clear hl hi hsp hpz
  by_cases hroom : 0 ≤ room ∧ room ≤ 67108864
  case neg =>
    have YN : Hid (∀ W, _) := fun W => new_bad W room (by omega)
    go_enter Try.func6, Try.ntmps6
    go_wp2_with fail
    refine (YL.out w).mono ?_
    rintro e w1 ⟨rfl, hx⟩
    have H1 := Lib.hid hx
    clear hx YL
    go_wp2_with fail
    refine (SM.out w1 H1.out).mono ?_
    rintro e w2 ⟨bb, rfl, ⟨m, hm⟩, hfit⟩
    have H2 : Hid (Nx w w2) := by rw [hm]; exact Nx.drewN H1.out m
    clear hm hfit SM H1
    cases bb with
    | false =>
      go_wp2
      go_ret
      exact ⟨rfl, H2.out⟩
    | true =>
      by_cases hz : sp.size ≤ 3000
      · go_wp2_with fail
        refine (YN.out w2).mono ?_
        rintro e w3 ⟨rfl, rfl⟩
        go_wp2
        go_ret
        exact ⟨rfl, H2.out⟩
      · go_wp2
        go_ret
        exact ⟨rfl, H2.out⟩
  case pos =>
    obtain ⟨hr0, hr1⟩ := hroom
    have YN : Hid (∀ W, Nx w W → Calls Try.prog 8 #[.int .i64 room] W fun e w' => ∃ tb, e = .returned (.tuple #[.pointer (some ⟨tb, 0, none⟩), .int .i64 0]) ∧ Liv w tb (St.new room) 0 w') := fun W hn => (liv_new (w := w) (W := W) room hr0 hr1 hn).mono fun e w' ⟨e1, e2⟩ => ⟨_, e1, e2⟩
    clear hr0 hr1
    go_enter Try.func6, Try.ntmps6
    go_wp2_with fail
    refine (YL.out w).mono ?_
    rintro e w1 ⟨rfl, hx⟩
    have H1 := Lib.hid hx
    clear hx YL
    go_wp2_with fail
    refine (SM.out w1 H1.out).mono ?_
    rintro e w2 ⟨bb, rfl, ⟨m, hm⟩, hfit⟩
    have H2 : Hid (Nx w w2) := by rw [hm]; exact Nx.drewN H1.out m
    have HF := Lib.hid hfit
    clear hm hfit SM H1
    cases bb with
    | false =>
      go_wp2
      go_ret
      exact ⟨rfl, H2.out⟩
    | true =>
      by_cases hz : sp.size ≤ 3000
      case neg =>
        go_wp2
        go_ret
        exact ⟨rfl, H2.out⟩
      case pos =>
        have hn200 : n ≤ 200 := (HF.out rfl).1
        have HFI := Lib.hid (HF.out rfl).2
        have HPL : Hid (p.length ≤ 10000) := by have := HPZ.out; show _ ≤ _; omega
        clear HF
        go_wp2_with fail
        refine (YN.out w2 H2.out).mono ?_
        rintro e w3 ⟨tb, rfl, hL⟩
        have H3 := Lib.hid hL
        clear hL YN H2
        go_wp2
        go_loopw [9, 10, 11, 12] (fun a b c d wr => ∃ (i : Nat) (s : St) (was : Str) (stamp : Nat) (there : Bool), a = .string (Go.Proofs.Ytodnckflobefpaa.S was) ∧ b = .int .u64 (stamp : Int) ∧ c = .bool there ∧ d = .int .i64 i ∧ i ≤ n ∧ Hid (Liv w tb s (2 * i) wr ∧ Idle s ∧ Stm s ∧ Seen s p was stamp there)) (fun _ _ _ x _ => n - (intOf x).toNat)
        case atStart => exact ⟨0, _, [], 0, false, rfl, rfl, rfl, rfl, Nat.zero_le _, H3.out, ⟨rfl, rfl⟩, stm_new room, fun h => by cases h⟩
        case round =>
          obtain ⟨i, s, was, stamp, there, rfl, rfl, rfl, rfl, hi, hrel⟩ := hrel
          have REL := Lib.hid hrel.out
          clear hrel H3
          by_cases hlt : i < n
          · obtain ⟨b, o, rfl, hbl, hc⟩ := HL.out.lies (by omega)
            have hc2 : ∀ W, Nx w W → ∀ f, f < 6 → W.cell? ⟨b, o + i * 6 + f, none⟩ = (l i).cs[f]? := fun W hx f hf => (hx.cell hbl).trans (hc i hlt f hf)
            have HFT := Lib.hid (HFI.out i hlt)
            obtain ⟨K1, K2, ⟨by_, hby⟩, -, -, N2, hps, -⟩ := HIN.out i hlt
            obtain ⟨ps, hps⟩ := hps (by have := HFT.out.2.2.2; omega)
            have PK := Lib.hid (fun W => pick_any (l i).K 10 W (by omega) (by omega) K1 K2)
            have CALL : Hid (∀ W, Liv w tb s (2 * i) W → Calls Try.prog 22 #[.pointer (some ⟨tb, 0, none⟩), .agg (l i).cs] W fun e w' => e = .returned (Ans (s.act (l i) by_ ps).2.1 (s.act (l i) by_ ps).2.2) ∧ Liv w tb (s.act (l i) by_ ps).1 (2 * i + 2) w') := fun W h => liv_call h (by omega) (l i) by_ ps HFT.out K1 K2 N2 hby hps
            have AG : Hid (pickOf (l i).K 10 ≠ 7 → Idle (s.act (l i) by_ ps).1 ∧ Goes s (s.act (l i) by_ ps).1) := fun h => act_goes REL.out.2.1 REL.out.2.2.1 (l i) by_ ps h
            have D := Lib.hid (hc2 wr REL.out.1.nx)
            clear hc hc2 hby hps K1 K2 N2
            generalize s.act (l i) by_ ps = r at *
            obtain ⟨s2, ax, ae⟩ := r
            simp only at CALL AG
            generalize hact : l i = ac at *
            have HACT := Lib.hid hact
            clear hact
            obtain ⟨K, q1, q2, B1, n1, c1, N, B4, n4, c4⟩ := ac
            simp only [Ac.cs] at D CALL PK AG
            have d0 := D.out 0 (by omega)
            have d1 := D.out 1 (by omega)
            have d2 := D.out 2 (by omega)
            have d3 := D.out 3 (by omega)
            have d4 := D.out 4 (by omega)
            have d5 := D.out 5 (by omega)
            simp only [List.getElem?_toArray, List.getElem?_cons_zero, List.getElem?_cons_succ, Nat.add_zero] at d0 d1 d2 d3 d4 d5
            clear D HACT
            generalize Go.Proofs.Ytodnckflobefpaa.S q1 = sq1 at *
            generalize Go.Proofs.Ytodnckflobefpaa.S q2 = sq2 at *
            generalize hpk : pickOf K 10 = pk at *
            clear hpk
            go_wp2_with fail
            refine (PK.out wr).mono ?_
            rintro e w4 ⟨rfl, rfl⟩
            clear PK
            by_cases h7 : pk = 7
            · subst h7
              clear AG CALL
              go_wp2
              go_roundw
              case rel => exact ⟨i + 1, s, was, stamp, there, rfl, rfl, rfl, by go_num, by omega, REL.out.1.up (by omega), REL.out.2⟩
              case measure => simp [intOf]; omega
            · have HG := Lib.hid (AG.out h7)
              clear AG
              go_wp2_with fail
              refine (CALL.out wr REL.out.1).mono ?_
              rintro e w4 ⟨rfl, hL⟩
              have H4 := Lib.hid hL
              clear hL CALL d0 d1 d2 d3 d4 d5
              have HI := Lib.hid HG.out.1
              have HM := Lib.hid HG.out.2.stm
              have SN := seen_next p was stamp there REL.out.2.2.2 REL.out.2.2.1 HG.out.1 HG.out.2 H4.out.fs
              have RD := Lib.hid (read_any_idle HG.out.1 p).1
              have ST : Hid (∀ W, Liv w tb s2 (2 * i + 2) W → _) := fun W h => liv_stat h p HPL.out
              have GT : Hid (∀ W, Liv w tb s2 (2 * i + 2) W → Calls Try.prog 15 #[.pointer (some ⟨tb, 0, none⟩), .string (Go.Proofs.Ytodnckflobefpaa.S p)] W fun e w' => e = .returned (.string (Go.Proofs.Ytodnckflobefpaa.S (s2.read p).2.1)) ∧ Liv w tb s2 (2 * i + 2) w') := fun W h => by have := liv_got h (by omega) p HPL.out; rw [RD.out] at this; exact this
              have CK : Hid (∀ W, Liv w tb s2 (2 * i + 2) W → _) := fun W h => liv_clock h
              clear RD HG
              rw [HSP.out] at ST GT
              generalize (s2.read p).2.1 = now at *
              generalize hst : s2.stat p = stt at *
              clear hst
              obtain ⟨sz, u, is⟩ := stt
              simp only at SN ST
              obtain ⟨sn1, sn2, sn3⟩ := SN
              have HSN := Lib.hid sn3
              clear sn3
              go_wp2_with fail
              refine (ST.out w4 H4.out).mono ?_
              rintro e w5 ⟨rfl, hL⟩
              have H4b := Lib.hid hL
              clear hL ST H4
              go_wp2_with fail
              refine (GT.out w5 H4b.out).mono ?_
              rintro e w5 ⟨rfl, hL⟩
              have H5 := Lib.hid hL
              clear hL GT H4b REL
              have HCK : Hid (u ≤ s2.clock) := sn2
              obtain ⟨ck, hck⟩ : ∃ ck, s2.clock = ck := ⟨_, rfl⟩
              rw [hck] at CK sn2
              clear hck
              have sn4 : (u : Int) ≤ (ck : Int) := by omega
              clear sn2 HCK
              cases is with
              | false =>
                clear sn1
                go_wp2_with fail
                refine (CK.out w5 H5.out).mono ?_
                rintro e w6 ⟨rfl, rfl⟩
                go_wp2
                go_roundw
                case rel => exact ⟨i + 1, s2, now, u, _, rfl, rfl, rfl, by go_num, by omega, H5.out.up2, HI.out, HM.out, HSN.out⟩
                case measure => simp [intOf]; omega
              | true =>
                cases there with
                | false =>
                  clear sn1
                  go_wp2_with fail
                  refine (CK.out w5 H5.out).mono ?_
                  rintro e w6 ⟨rfl, rfl⟩
                  go_wp2
                  go_roundw
                  case rel => exact ⟨i + 1, s2, now, u, _, rfl, rfl, rfl, by go_num, by omega, H5.out.up2, HI.out, HM.out, HSN.out⟩
                  case measure => simp [intOf]; omega
                | true =>
                  by_cases hu : u = stamp
                  · have hnow : now = was := sn1 rfl rfl hu
                    subst hnow hu
                    clear sn1
                    go_wp2_with fail
                    refine (CK.out w5 H5.out).mono ?_
                    rintro e w6 ⟨rfl, rfl⟩
                    go_wp2
                    go_roundw
                    case rel => exact ⟨i + 1, s2, now, u, _, rfl, rfl, rfl, by go_num, by omega, H5.out.up2, HI.out, HM.out, HSN.out⟩
                    case measure => simp [intOf]; omega
                  · have hu2 : ((u : Int) == (stamp : Int)) = false := by simp; omega
                    clear sn1
                    go_wp2_with fail
                    refine (CK.out w5 H5.out).mono ?_
                    rintro e w6 ⟨rfl, rfl⟩
                    go_wp2
                    go_roundw
                    case rel => exact ⟨i + 1, s2, now, u, _, rfl, rfl, rfl, by go_num, by omega, H5.out.up2, HI.out, HM.out, HSN.out⟩
                    case measure => simp [intOf]; omega
          · obtain rfl : i = n := by omega
            go_wp2
            go_ret
            exact ⟨rfl, REL.out.1.nx⟩
end Go.Proofs.Ytodnckflobefpaa

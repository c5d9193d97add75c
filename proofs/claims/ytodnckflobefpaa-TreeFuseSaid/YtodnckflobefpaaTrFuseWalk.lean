/- The walk of the law TreeFuse. -/
import Derived.Test.YtodnckflobefpaaTrTail
import Derived.Deep.RegionHeld3
namespace Go.Proofs.Ytodnckflobefpaa
open Go.RowKit Go.Maps
set_option linter.unusedVariables false

def FR (off : Bool) (sa sb : St) : Prop := (off = true ∧ sb = sa.dead) ∨ (off = false ∧ ∃ f, 0 ≤ f ∧ sb = sa.fz f)
theorem ybox (W : World) (x : ByteArray) (er : Int) : BlkIs (W.alloc (.cells #[.string x, .int .i64 er] 46)) W.heap.size 46 #[.string x, .int .i64 er] := BlkIs.new W _ _
theorem ynx (W : World) (x : ByteArray) (er : Int) : Nx W (W.alloc (.cells #[.string x, .int .i64 er] 46)) := (Below.refl _ W).alloc (Nat.le_refl _) _
theorem yc0 (W : World) (x : ByteArray) (er : Int) : World.cell? (W.alloc (.cells #[.string x, .int .i64 er] 46)) ⟨W.heap.size, 0, none⟩ = some (.string x) := by rw [(ybox W x er).cell 0]; rfl
theorem yc1 (W : World) (x : ByteArray) (er : Int) : World.cell? (W.alloc (.cells #[.string x, .int .i64 er] 46)) ⟨W.heap.size, 1, none⟩ = some (.int .i64 er) := by rw [(ybox W x er).cell 1]; rfl
theorem ysize (W : World) (x : ByteArray) (er : Int) : (World.heap (W.alloc (.cells #[.string x, .int .i64 er] 46))).size = W.heap.size + 1 := by simp

set_option maxRecDepth 100000 in
set_option maxHeartbeats 20000000 in
theorem fuse_any2 (w : World) (A : Option Addr) (n c : Nat) (l : Nat → Ac) (fuse : Int) (hl : Acts w A n c l) (hi : ∀ i, i < n → ActIn w (l i)) (hf0 : -9223372036854775808 ≤ fuse) (hf1 : fuse ≤ 9223372036854775807) :
    Calls Try.prog 7 #[.slice A n c, .int .i64 fuse] w fun e w' => e = .returned (.bool true) ∧ Below w.heap.size w w' := by
  have YL := Lib.hid (fun W => lives_any W)
  have SM : Hid (∀ W, Nx w W → _) := fun W hx => small_any W A n c l (hl.nx hx) (fun i h => ⟨(hi i h).n, (hi i h).n4⟩)
  have PF := Lib.hid (fun W => pick_any fuse 60 W (by omega) (by omega) hf0 hf1)
  have pf0 := pickOf_lo fuse 60 (by omega)
  have pf1 := pickOf_hi fuse 60 (by omega)
  have HL := Lib.hid hl
  have HIN := Lib.hid hi
  have hle := hl.le
  have hcap := hl.cap
  unfold maxLen at hcap
  have NA : Hid (∀ W, Nx w W → Calls Try.prog 8 #[.int .i64 5000] W fun e w' => ∃ tb, e = .returned (.tuple #[.pointer (some ⟨tb, 0, none⟩), .int .i64 0]) ∧ Liv w tb (St.new 5000) 0 w') := fun W hn => (liv_new (w := w) (W := W) 5000 (by decide) (by decide) hn).mono fun e w' ⟨e1, e2⟩ => ⟨_, e1, e2⟩
  clear hl hi hf0 hf1
  generalize pickOf fuse 60 = pf at *
  have hpf : St.fuse_ (St.new 5000) pf = (St.new 5000).fz pf := by
    unfold St.fuse_ St.fz
    congr 1
    omega
  have HPF := Lib.hid hpf
  clear hpf
  go_enter Try.func7, Try.ntmps7
  go_wp2_with fail
  refine (YL.out w).mono ?_
  rintro e w1 ⟨rfl, hx⟩
  have H1 := Lib.hid hx
  clear hx YL
  go_wp2_with fail
  refine (SM.out w1 H1.out).mono ?_
  rintro e w2 ⟨bb, rfl, ⟨m, hm⟩, hfit⟩
  have H2 : Hid (Nx w w2) := by rw [hm]; exact Nx.drewN H1.out m
  have HF := Lib.hid hfit
  clear hm hfit SM H1
  cases bb with
  | false =>
    go_wp2
    go_ret
    exact ⟨rfl, H2.out⟩
  | true =>
    have hn200 : n ≤ 200 := (HF.out rfl).1
    have HFI := Lib.hid (HF.out rfl).2
    clear HF
    go_wp2_with fail
    refine (NA.out w2 H2.out).mono ?_
    rintro e w3 ⟨ta, rfl, hL⟩
    have NB := Lib.hid (liv2_new hL 5000 (by decide) (by decide))
    clear hL NA H2
    go_wp2_with fail
    refine NB.out.mono ?_
    rintro e w3 ⟨tb, rfl, hL⟩
    have H3 := Lib.hid hL
    clear hL NB
    go_wp2_with fail
    refine (PF.out w3).mono ?_
    rintro e w3 ⟨rfl, rfl⟩
    have FU := Lib.hid (liv2_fuse H3.out pf (by omega))
    rw [HPF.out] at FU
    clear PF H3 HPF
    go_wp2_with fail
    refine FU.out.mono ?_
    rintro e w4 ⟨rfl, hL⟩
    have H4 := Lib.hid hL
    have HPF0 : Hid (0 ≤ pf) := pf0
    clear hL FU pf0 pf1
    go_wp2
    go_loopw [9, 10] (fun a b wr => ∃ (i : Nat) (sa sb : St) (off : Bool), a = .bool off ∧ b = .int .i64 i ∧ i ≤ n ∧ Hid (Liv2 w ta sa (2 * i) tb sb (2 * i) wr ∧ Idle sa ∧ Acc sa ∧ FR off sa sb ∧ Stm sa)) (fun _ x _ => n - (intOf x).toNat)
    case atStart => exact ⟨0, _, _, false, rfl, rfl, Nat.zero_le _, H4.out, ⟨rfl, rfl⟩, acc_new, .inr ⟨rfl, _, HPF0.out, rfl⟩, stm_new 5000⟩
    case round =>
      obtain ⟨i, sa, sb, off, rfl, rfl, hi, hrel⟩ := hrel
      have REL := Lib.hid hrel.out
      clear hrel H4 HPF0
      by_cases hlt : i < n
      · obtain ⟨b, o, rfl, hbl, hc⟩ := HL.out.lies (by omega)
        have HBL := Lib.hid hbl
        have hc2 : ∀ W, Nx w W → ∀ f, f < 6 → W.cell? ⟨b, o + i * 6 + f, none⟩ = (l i).cs[f]? := fun W hx f hf => (hx.cell hbl).trans (hc i hlt f hf)
        have HFT := Lib.hid (HFI.out i hlt)
        obtain ⟨K1, K2, ⟨by_, hby⟩, -, -, N2, hps, -⟩ := HIN.out i hlt
        obtain ⟨ps, hps⟩ := hps (by have := HFT.out.2.2.2; omega)
        have PK := Lib.hid (fun W => pick_any (l i).K 10 W (by omega) (by omega) K1 K2)
        have CALL : Hid (∀ (t1 t2 : Nat) (s1 s2 : St) (k1 k2 : Nat) (W0 W : World), k1 + 1 ≤ 1000 → Liv2 w t1 s1 k1 t2 s2 k2 W0 → Nx W0 W → Calls Try.prog 22 #[.pointer (some ⟨t1, 0, none⟩), .agg (l i).cs] W fun e w' => e = .returned (Ans (s1.act (l i) by_ ps).2.1 (s1.act (l i) by_ ps).2.2) ∧ Liv2 w t1 (s1.act (l i) by_ ps).1 (k1 + 2) t2 s2 k2 w' ∧ W.heap.size ≤ w'.heap.size ∧ ∀ X, W0.heap.size ≤ X → X < W.heap.size → w'.heap[X]? = W.heap[X]?) := fun t1 t2 s1 s2 k1 k2 W0 W hk h hn => liv2_call h hn hk (l i) by_ ps HFT.out K1 K2 N2 hby hps
        have AF : Hid (pickOf (l i).K 10 ≠ 7 → pickOf (l i).K 10 ≠ 8 → ∀ f : Int, 0 ≤ f → _) := fun h7 h8 f hf => act_fz REL.out.2.1 f hf (l i) by_ ps h7 h8
        have AD : Hid (pickOf (l i).K 10 ≠ 7 → pickOf (l i).K 10 ≠ 8 → _) := fun h7 h8 => act_dead sa (l i) by_ ps h7 h8
        have AG : Hid (pickOf (l i).K 10 ≠ 7 → pickOf (l i).K 10 ≠ 8 → Idle (sa.act (l i) by_ ps).1 ∧ Acc (sa.act (l i) by_ ps).1 ∧ Stm (sa.act (l i) by_ ps).1) := fun h7 h8 => ⟨(act_goes REL.out.2.1 REL.out.2.2.2.2 (l i) by_ ps h7).1, act_acc REL.out.2.1 REL.out.2.2.1 (l i) by_ ps h7 h8, (act_goes REL.out.2.1 REL.out.2.2.2.2 (l i) by_ ps h7).2.stm⟩
        have D : Hid (∀ W, Nx w W → ∀ f, f < 6 → W.cell? ⟨b, o + i * 6 + f, none⟩ = (l i).cs[f]?) := hc2
        clear hc hc2 hby hps K1 K2 N2 hbl
        generalize hact : l i = ac at *
        have HACT := Lib.hid hact
        clear hact
        have hcs : ac.cs = #[.int .i64 ac.K, .string (Go.Proofs.Ytodnckflobefpaa.S ac.p), .string (Go.Proofs.Ytodnckflobefpaa.S ac.q), .slice ac.A ac.n ac.c, .int .i64 ac.N, .slice ac.A4 ac.n4 ac.c4] := rfl
        rw [hcs] at D CALL
        clear hcs HACT HFT
        generalize ac.K = K at *
        generalize Go.Proofs.Ytodnckflobefpaa.S ac.p = sq1 at *
        generalize Go.Proofs.Ytodnckflobefpaa.S ac.q = sq2 at *
        generalize ac.A = B1 at *
        generalize ac.n = n1 at *
        generalize ac.c = c1 at *
        generalize ac.N = N at *
        generalize ac.A4 = B4 at *
        generalize ac.n4 = n4 at *
        generalize ac.c4 = c4 at *
        have DD : Hid (∀ W, Nx w W → W.cell? ⟨b, o + i * 6, none⟩ = some (.int .i64 K) ∧ W.cell? ⟨b, o + i * 6 + 1, none⟩ = some (.string sq1) ∧ W.cell? ⟨b, o + i * 6 + 2, none⟩ = some (.string sq2) ∧ W.cell? ⟨b, o + i * 6 + 3, none⟩ = some (.slice B1 n1 c1) ∧ W.cell? ⟨b, o + i * 6 + 4, none⟩ = some (.int .i64 N) ∧ W.cell? ⟨b, o + i * 6 + 5, none⟩ = some (.slice B4 n4 c4)) := fun W hx => ⟨D.out W hx 0 (by omega), D.out W hx 1 (by omega), D.out W hx 2 (by omega), D.out W hx 3 (by omega), D.out W hx 4 (by omega), D.out W hx 5 (by omega)⟩
        clear D
        obtain ⟨d0, d1, d2, d3, d4, d5⟩ := DD.out wr REL.out.1.nx
        generalize hpk : pickOf K 10 = pk at *
        clear hpk
        go_wp2_with fail
        refine (PK.out wr).mono ?_
        rintro e w4 ⟨rfl, rfl⟩
        clear PK
        by_cases h7 : pk = 7
        · subst h7
          clear AF AD AG CALL DD
          go_wp2
          go_roundw
          case rel => exact ⟨i + 1, sa, sb, off, rfl, by go_num, by omega, REL.out.1.up (by omega) (by omega), REL.out.2⟩
          case measure => simp [intOf]; omega
        by_cases h8 : pk = 8
        · subst h8
          clear AF AD AG CALL DD
          go_wp2
          go_roundw
          case rel => exact ⟨i + 1, sa, sb, off, rfl, by go_num, by omega, REL.out.1.up (by omega) (by omega), REL.out.2⟩
          case measure => simp [intOf]; omega
        have AF1 := Lib.hid (AF.out h7 h8)
        have AD1 := Lib.hid (AD.out h7 h8)
        have AG1 := Lib.hid (AG.out h7 h8)
        clear AF AD AG
        have b7 : (pk == 7) = false := by simpa using h7
        have b8 : (pk == 8) = false := by simpa using h8
        have b9 : decide (pk = 7) = false := decide_eq_false h7
        have b10 : decide (pk = 8) = false := decide_eq_false h8
        have RI := Lib.hid REL.out.2.1
        have RA := Lib.hid REL.out.2.2.1
        have RL := Lib.hid REL.out.1
        have RM := Lib.hid REL.out.2.2.2.2
        obtain ⟨rfl, rfl⟩ | ⟨rfl, f, hf0, rfl⟩ := REL.out.2.2.2.1
        · -- off
          have PB : Hid (∀ k W, k + 1 ≤ 1000 → Liv2 w ta sa k tb sa.dead k W → Calls Try.prog 23 #[.pointer (some ⟨tb, 0, none⟩), .string ⟨#[]⟩] W (PathsPost (sa.dead.paths []) W)) := fun k W hk h => liv_paths2 h.b hk []
          have LB : Hid (∀ k W, k + 1 ≤ 1000 → Liv2 w ta sa k tb sa.dead k W → Calls Try.prog 16 #[.pointer (some ⟨tb, 0, none⟩)] W fun e w' => e = .returned (.int .i64 (sa.dead.left_ sa.dead.used)) ∧ W = w') := fun k W hk h => liv_left h.b hk
          have ON : Hid (∀ k W, Liv2 w ta sa k tb sa.dead k W → Calls Try.prog 19 #[.pointer (some ⟨tb, 0, none⟩)] W fun e w' => e = .returned (.bool false) ∧ W = w') := fun k W h => liv_on h.b
          have CB : Hid (∀ W0 W, Liv2 w ta sa (2 * i) tb sa.dead (2 * i) W0 → Nx W0 W → _) := fun W0 W h hn => CALL.out tb ta sa.dead sa (2 * i) (2 * i) W0 W (by omega) h.swap hn
          obtain ⟨er, her, hact⟩ : ∃ er, (er = 11 ∨ er = 2) ∧ sa.dead.act ac by_ ps = (sa.dead, [], er) := by
            rcases AD1.out with h | h
            · exact ⟨11, .inl rfl, h⟩
            · exact ⟨2, .inr rfl, h⟩
          rw [hact] at CB
          simp only [Ans] at CB
          rw [show Go.Proofs.Ytodnckflobefpaa.S [] = ⟨#[]⟩ from rfl] at CB
          clear hact AD1 AF1 AG1 CALL REL
          generalize sa.dead.left_ sa.dead.used = lv at *
          generalize sa.dead.paths [] = PLB at *
          go_wp2_with fail
          refine (PB.out _ wr (by omega) RL.out).mono ?_
          rintro e w4 ⟨⟨A4p, n4p, c4p, rfl, hstr, hA4⟩, hx⟩
          have STR := Lib.hid hstr
          have HA4 := Lib.hid hA4
          have HX4 := Lib.hid hx
          have R4 := Lib.hid (RL.out.next hx)
          clear hstr hA4 hx d0 d1 d2 d3 d4 d5
          obtain ⟨d0, d1, d2, d3, d4, d5⟩ := DD.out w4 R4.out.nx
          go_wp2_with fail
          refine (LB.out _ w4 (by omega) R4.out).mono ?_
          rintro e w5 ⟨rfl, rfl⟩
          rcases her with rfl | rfl
          · go_wp2_with fail
            refine (CB.out wr w4 RL.out HX4.out).mono ?_
            rintro e w5 ⟨rfl, hL, hsz, hX⟩
            have STR5 := Lib.hid (STR.out.kept HA4.out hsz hX)
            have H5 : Hid (Liv2 w ta sa (2 * i + 2) tb sa.dead (2 * i + 2) w5) := hL.swap.up (by omega) (Nat.le_refl _)
            clear hL hsz hX d0 d1 d2 d3 d4 d5 CB STR HA4 HX4 R4 DD RL
            have HY := Lib.hid (ybox w5 ⟨#[]⟩ 11)
            have YC0 := yc0 w5 ⟨#[]⟩ 11
            have YC1 := yc1 w5 ⟨#[]⟩ 11
            have H6 := Lib.hid (H5.out.next (ynx w5 ⟨#[]⟩ 11))
            clear H5
            go_wp2_with fail
            refine (ON.out _ _ H6.out).mono ?_
            rintro e w6 ⟨rfl, rfl⟩
            go_wp2_with fail
            refine (LB.out _ _ (by omega) H6.out).mono ?_
            rintro e w6 ⟨rfl, rfl⟩
            go_wp2_with fail
            refine (PB.out _ _ (by omega) H6.out).mono ?_
            rintro e w8 ⟨⟨A8, n8, c8, rfl, hstr, -⟩, hx⟩
            have H8 := Lib.hid (H6.out.next hx)
            have TX := Lib.hid (texts_any w8 A8 A4p n8 c8 n4p c4p PLB PLB hstr ((STR5.out.nx (ynx w5 ⟨#[]⟩ 11)).nx hx))
            clear hstr hx YC0 YC1 HY H6 STR5 PB LB ON
            simp only [decide_true] at TX
            go_wp2_with fail
            refine TX.out.mono ?_
            rintro e w11 ⟨rfl, m11, hm11⟩
            have H11 : Hid (Liv2 w ta sa (2 * i + 2) tb sa.dead (2 * i + 2) w11) := by rw [hm11]; exact H8.out.next (Nx.drewN (Nx.refl _) m11)
            clear hm11 TX H8
            go_wp2
            go_roundw
            case rel => exact ⟨i + 1, sa, sa.dead, true, rfl, by go_num, by omega, H11.out.up (by omega) (by omega), RI.out, RA.out, .inl ⟨rfl, rfl⟩, RM.out⟩
            case measure => simp [intOf]; omega
          · go_wp2_with fail
            refine (CB.out wr w4 RL.out HX4.out).mono ?_
            rintro e w5 ⟨rfl, hL, hsz, hX⟩
            have STR5 := Lib.hid (STR.out.kept HA4.out hsz hX)
            have H5 : Hid (Liv2 w ta sa (2 * i + 2) tb sa.dead (2 * i + 2) w5) := hL.swap.up (by omega) (Nat.le_refl _)
            clear hL hsz hX d0 d1 d2 d3 d4 d5 CB STR HA4 HX4 R4 DD RL
            have HY := Lib.hid (ybox w5 ⟨#[]⟩ 2)
            have YC0 := yc0 w5 ⟨#[]⟩ 2
            have YC1 := yc1 w5 ⟨#[]⟩ 2
            have H6 := Lib.hid (H5.out.next (ynx w5 ⟨#[]⟩ 2))
            clear H5
            go_wp2_with fail
            refine (ON.out _ _ H6.out).mono ?_
            rintro e w6 ⟨rfl, rfl⟩
            go_wp2_with fail
            refine (LB.out _ _ (by omega) H6.out).mono ?_
            rintro e w6 ⟨rfl, rfl⟩
            go_wp2_with fail
            refine (PB.out _ _ (by omega) H6.out).mono ?_
            rintro e w8 ⟨⟨A8, n8, c8, rfl, hstr, -⟩, hx⟩
            have H8 := Lib.hid (H6.out.next hx)
            have TX := Lib.hid (texts_any w8 A8 A4p n8 c8 n4p c4p PLB PLB hstr ((STR5.out.nx (ynx w5 ⟨#[]⟩ 2)).nx hx))
            clear hstr hx YC0 YC1 HY H6 STR5 PB LB ON
            simp only [decide_true] at TX
            go_wp2_with fail
            refine TX.out.mono ?_
            rintro e w11 ⟨rfl, m11, hm11⟩
            have H11 : Hid (Liv2 w ta sa (2 * i + 2) tb sa.dead (2 * i + 2) w11) := by rw [hm11]; exact H8.out.next (Nx.drewN (Nx.refl _) m11)
            clear hm11 TX H8
            go_wp2
            go_roundw
            case rel => exact ⟨i + 1, sa, sa.dead, true, rfl, by go_num, by omega, H11.out.up (by omega) (by omega), RI.out, RA.out, .inl ⟨rfl, rfl⟩, RM.out⟩
            case measure => simp [intOf]; omega
        · -- on
          clear AD1 REL
          have CB : Hid (∀ W0, Liv2 w ta sa (2 * i) tb (sa.fz f) (2 * i) W0 → _) := fun W0 h => CALL.out tb ta (sa.fz f) sa (2 * i) (2 * i) W0 W0 (by omega) h.swap (Nx.refl _)
          rcases AF1.out f hf0 with hact | ⟨f', g0, -, hact, hne⟩
          · rw [hact] at CB
            simp only [Ans] at CB
            rw [show Go.Proofs.Ytodnckflobefpaa.S [] = ⟨#[]⟩ from rfl] at CB
            clear hact AF1 AG1 CALL DD
            go_wp2_with fail
            refine (CB.out wr RL.out).mono ?_
            rintro e w5 ⟨rfl, hL, -, -⟩
            have H5 : Hid (Liv2 w ta sa (2 * i + 2) tb sa.dead (2 * i + 2) w5) := hL.swap.up (by omega) (Nat.le_refl _)
            clear hL d0 d1 d2 d3 d4 d5 CB RL
            have HY := Lib.hid (ybox w5 ⟨#[]⟩ 11)
            have YC0 := yc0 w5 ⟨#[]⟩ 11
            have YC1 := yc1 w5 ⟨#[]⟩ 11
            have H6 := Lib.hid (H5.out.next (ynx w5 ⟨#[]⟩ 11))
            clear H5
            have HI2 := RI
            have HA2 := RA
            have HM2 := RM
            have HFR2 : Hid (FR true sa sa.dead) := .inl ⟨rfl, rfl⟩
            clear RI RA RM
            obtain ⟨PL, C, c0, cle, pa, pb, la, lb, on, stt⟩ := tail_of (w := w) (ta := ta) (tb := tb) (k := 2 * i + 2) (sb := sa.dead) HA2.out true rfl rfl rfl rfl (by omega)
            have PA := Lib.hid pa
            have PB := Lib.hid pb
            have LA := Lib.hid la
            have LB := Lib.hid lb
            have ON := Lib.hid on
            have STT := Lib.hid stt
            have C0 := Lib.hid c0
            have CLE := Lib.hid cle
            clear pa pb la lb on stt c0 cle
            simp only [Bool.not_true] at ON
            go_wp2_with fail
            refine (PA.out _ H6.out).mono ?_
            rintro e w8 ⟨⟨A8, n8, c8, rfl, hstr, -⟩, hx⟩
            have H8 := Lib.hid (H6.out.next hx)
            have STR := Lib.hid hstr
            have hlen8 := hstr.len
            have hle8 := hstr.le
            rw [hlen8] at LA LB
            have hcl : C n8 ≤ 5000 := CLE.out n8
            obtain ⟨CN, hCN⟩ : ∃ CN, C n8 = CN := ⟨_, rfl⟩
            rw [hCN] at LA LB hcl
            have HCN := Lib.hid hCN
            have HL8 := Lib.hid hlen8
            clear hx hstr hlen8 PA hCN
            go_wp2
            go_loopw [17, 18] (fun a b wr => ∃ j : Nat, a = .int .i64 ((C j : Nat) : Int) ∧ b = .int .i64 (j : Int) ∧ j ≤ n8 ∧ Hid (Nx w8 wr)) (fun _ x _ => n8 - (intOf x).toNat)
            case atStart => exact ⟨0, by rw [C0.out]; rfl, rfl, Nat.zero_le _, Nx.refl _⟩
            case round =>
              obtain ⟨j, rfl, rfl, hj, hrel2⟩ := hrel
              have RX := Lib.hid hrel2.out
              clear hrel2
              by_cases hlt2 : j < n8
              · obtain ⟨b8, rfl, hb8, hc8⟩ := STR.out.at_ (by omega)
                have hcell := (RX.out.cell (p := ⟨b8, j, none⟩) hb8).trans (hc8 j hlt2)
                obtain ⟨d, hd, hst⟩ := STT.out j (by rw [HL8.out]; exact hlt2)
                have ST := Lib.hid hst
                have HD := Lib.hid hd
                have cj1 : C j ≤ 5000 := CLE.out j
                have cj2 : C j + d ≤ 5000 := by have := CLE.out (j + 1); rw [hd] at this; exact this
                clear hc8 hd hst
                generalize Go.Proofs.Ytodnckflobefpaa.S (PL.getD j []) = spj at *
                go_wp2_with fail
                refine (ST.out _ (H8.out.next RX.out)).mono ?_
                rintro e w9 ⟨⟨u9, rfl⟩, hx⟩
                have RX9 := Lib.hid (RX.out.trans hx)
                clear hx ST hcell
                go_wp2
                go_roundw
                case rel => exact ⟨j + 1, by rw [HD.out]; go_num, by go_num, by omega, RX9.out⟩
                case measure => simp [intOf]; omega
              · obtain rfl : j = n8 := by omega
                have H9 := Lib.hid (H8.out.next RX.out)
                have STR9 := Lib.hid (STR.out.nx RX.out)
                clear H8 STR RX STT CLE
                rw [HCN.out]
                go_wp2_with fail
                refine (PB.out _ H9.out).mono ?_
                rintro e w10 ⟨⟨A10, n10, c10, rfl, hstr2, -⟩, hx⟩
                have H10 := Lib.hid (H9.out.next hx)
                have TX := Lib.hid (texts_any w10 A8 A10 j c8 n10 c10 PL PL (STR9.out.nx hx) hstr2)
                clear hx hstr2 PB H9 STR9
                simp only [decide_true] at TX
                go_wp2_with fail
                refine TX.out.mono ?_
                rintro e w11 ⟨rfl, m11, hm11⟩
                have H11 : Hid (Liv2 w ta sa (2 * i + 2) tb sa.dead (2 * i + 2) w11) := by rw [hm11]; exact H10.out.next (Nx.drewN (Nx.refl _) m11)
                clear hm11 TX H10
                go_wp2_with fail
                refine (LA.out _ H11.out).mono ?_
                rintro e w12 ⟨rfl, rfl⟩
                go_wp2_with fail
                refine (LB.out _ H11.out).mono ?_
                rintro e w12 ⟨rfl, rfl⟩
                go_wp2_with fail
                refine (LA.out _ H11.out).mono ?_
                rintro e w12 ⟨rfl, rfl⟩
                go_wp2_with fail
                refine (ON.out _ H11.out).mono ?_
                rintro e w12 ⟨rfl, rfl⟩
                clear LA LB ON
                go_wp2
                go_roundw
                case rel => exact ⟨i + 1, sa, sa.dead, true, rfl, by go_num, by omega, H11.out.up (by omega) (by omega), HI2.out, HA2.out, HFR2.out, HM2.out⟩
                case measure => simp [intOf]; omega
          · have CA : Hid (∀ W0 W, Liv2 w ta sa (2 * i) tb ((sa.act ac by_ ps).1.fz f') (2 * i + 2) W0 → Nx W0 W → _) := fun W0 W h hn => CALL.out ta tb sa _ (2 * i) (2 * i + 2) W0 W (by omega) h hn
            rw [hact] at CB
            clear hact AF1 CALL
            generalize sa.act ac by_ ps = r at *
            obtain ⟨sa2, x, er⟩ := r
            simp only [Ans] at CB CA AG1 hne
            generalize Go.Proofs.Ytodnckflobefpaa.S x = sx at *
            have hne2 : (er == 11) = false := by simpa using hne
            have hne3 : ¬ er = 11 := hne
            clear hne
            go_wp2_with fail
            refine (CB.out wr RL.out).mono ?_
            rintro e w5 ⟨rfl, hL, -, -⟩
            have H5 : Hid (Liv2 w ta sa (2 * i) tb (sa2.fz f') (2 * i + 2) w5) := hL.swap
            clear hL d0 d1 d2 d3 d4 d5 CB RL
            have HY := Lib.hid (ybox w5 sx er)
            have YC0 := yc0 w5 sx er
            have YC1 := yc1 w5 sx er
            have H6 := Lib.hid (H5.out.next (ynx w5 sx er))
            go_upto_region 23 with fail
            clear YC0 YC1
            refine wp_region_held_drew (S := (fun W => (W.cell? ⟨w5.heap.size, 0, none⟩ = some (.string sx) ∧ W.cell? ⟨w5.heap.size, 1, none⟩ = some (.int .i64 er)) ∧ W.cell? ⟨b, o + i * 6, none⟩ = some (.int .i64 K) ∧ W.cell? ⟨b, o + i * 6 + 1, none⟩ = some (.string sq1) ∧ W.cell? ⟨b, o + i * 6 + 2, none⟩ = some (.string sq2) ∧ W.cell? ⟨b, o + i * 6 + 3, none⟩ = some (.slice B1 n1 c1) ∧ W.cell? ⟨b, o + i * 6 + 4, none⟩ = some (.int .i64 N) ∧ W.cell? ⟨b, o + i * 6 + 5, none⟩ = some (.slice B4 n4 c4))) (by kernel_rfl) ⟨⟨by rw [(HY.out.drew).cell 0]; rfl, by rw [(HY.out.drew).cell 1]; rfl⟩, DD.out _ (Nx.drew H6.out.nx)⟩ (fun hHeld => ?_)
            change wpAnyH _ _ _ _ _ 8 (Array.replicate 8 false) _ _
            refine wpAnyH_take (i := 0) (oi := { dst := some 111, op := Op.load 46 (Operand.tmp 15), type := 46, pos := "law.go:266", after := #[], guard := none }) (v := ?vq0) rfl (by kernel_rfl) (by kernel_rfl) (by kernel_rfl) (fun _ _ _ h => h) (Or.inl ⟨by rfl, ?hyq0⟩) hHeld ?restq0
            case hyq0 =>
              intro W hSw
              obtain ⟨⟨s0, s1⟩, -⟩ := hSw
              go_simp
              try with_reducible rfl
            try simp only [Act.put, List.setIfInBounds_toArray, List.set_cons_zero, List.set_cons_succ]
            refine wpAnyH_take (i := 1) (oi := { dst := some 112, op := Op.move (Operand.tmp 5), type := 22, pos := "law.go:266", after := #[], guard := none }) (v := ?vq1) rfl (by kernel_rfl) (by kernel_rfl) (by kernel_rfl) (fun _ _ _ h => h) (Or.inl ⟨by rfl, ?hyq1⟩) hHeld ?restq1
            case hyq1 =>
              intro W hSw
              go_simp
              try with_reducible rfl
            try simp only [Act.put, List.setIfInBounds_toArray, List.set_cons_zero, List.set_cons_succ]
            refine wpAnyH_take (i := 2) (oi := { dst := some 113, op := Op.move (Operand.tmp 0), type := 41, pos := "law.go:266", after := #[], guard := none }) (v := ?vq2) rfl (by kernel_rfl) (by kernel_rfl) (by kernel_rfl) (fun _ _ _ h => h) (Or.inl ⟨by rfl, ?hyq2⟩) hHeld ?restq2
            case hyq2 =>
              intro W hSw
              go_simp
              try with_reducible rfl
            try simp only [Act.put, List.setIfInBounds_toArray, List.set_cons_zero, List.set_cons_succ]
            refine wpAnyH_take (i := 3) (oi := { dst := some 114, op := Op.move (Operand.tmp 10), type := 3, pos := "law.go:266", after := #[], guard := none }) (v := ?vq3) rfl (by kernel_rfl) (by kernel_rfl) (by kernel_rfl) (fun _ _ _ h => h) (Or.inl ⟨by rfl, ?hyq3⟩) hHeld ?restq3
            case hyq3 =>
              intro W hSw
              go_simp
              try with_reducible rfl
            try simp only [Act.put, List.setIfInBounds_toArray, List.set_cons_zero, List.set_cons_succ]
            refine wpAnyH_take (i := 4) (oi := { dst := some 115, op := Op.indexAddr 41 (Operand.tmp 113) (Operand.tmp 114), type := 0, pos := "law.go:266", after := #[{ on := 2, ground := Ground.data }, { on := 3, ground := Ground.data }], guard := none }) (v := ?vq4) rfl (by kernel_rfl) (by kernel_rfl) (by kernel_rfl) (fun _ _ _ h => h) (Or.inl ⟨by rfl, ?hyq4⟩) hHeld ?restq4
            case hyq4 =>
              intro W hSw
              go_simp
              try with_reducible rfl
            try simp only [Act.put, List.setIfInBounds_toArray, List.set_cons_zero, List.set_cons_succ]
            refine wpAnyH_take (i := 5) (oi := { dst := some 116, op := Op.load 39 (Operand.tmp 115), type := 39, pos := "law.go:266", after := #[{ on := 4, ground := Ground.data }], guard := none }) (v := ?vq5) rfl (by kernel_rfl) (by kernel_rfl) (by kernel_rfl) (fun _ _ _ h => h) (Or.inl ⟨by rfl, ?hyq5⟩) hHeld ?restq5
            case hyq5 =>
              intro W hSw
              obtain ⟨-, s0, s1, s2, s3, s4, s5⟩ := hSw
              go_simp
              try with_reducible rfl
            try simp only [Act.put, List.setIfInBounds_toArray, List.set_cons_zero, List.set_cons_succ]
            refine wpAnyH_ready (rs := [6]) (by kernel_rfl) (by simp) ?_
            refine AllReadyH.cons (o := { dst := some 117, op := Op.call { callee := Callee.value (Operand.func 22), args := #[Operand.tmp 112, Operand.tmp 116], argTypes := #[22, 39] }, type := 46, pos := "law.go:266", after := #[{ on := 1, ground := Ground.data }, { on := 5, ground := Ground.data }], guard := none }) rfl (fun K' hK => ?_) AllReadyH.nil
            go_simp
            refine (CA.out w5 _ H5.out (Nx.drew (ynx w5 sx er))).mono ?_
            rintro e w6 ⟨rfl, hL, -, hX⟩
            have H7 := Lib.hid hL
            have HY6 : Hid (BlkIs w6 w5.heap.size 46 #[.string sx, .int .i64 er]) := (hX w5.heap.size (Nat.le_refl _) (by have := ysize w5 sx er; simp only [World.size_drew]; omega)).trans HY.out.drew
            clear hL hX
            show K' _ w6
            refine hK.out _ _ ⟨⟨by rw [HY6.out.cell 0]; rfl, by rw [HY6.out.cell 1]; rfl⟩, DD.out _ H7.out.nx⟩ (fun hHeld => ?_)
            clear hK K'
            try simp only [Act.put, List.setIfInBounds_toArray, List.set_cons_zero, List.set_cons_succ]
            refine wpAnyH_take (i := 7) (oi := { dst := some 118, op := Op.binOp BinOp.neq 46 (Operand.tmp 111) (Operand.tmp 117) 46, type := 4, pos := "law.go:266", after := #[{ on := 0, ground := Ground.data }, { on := 6, ground := Ground.data }], guard := none }) (v := ?vq7) rfl (by kernel_rfl) (by kernel_rfl) (by kernel_rfl) (fun _ _ _ h => h) (Or.inl ⟨by rfl, ?hyq7⟩) hHeld ?restq7
            case hyq7 =>
              intro W hSw
              go_simp
              try with_reducible rfl
            try simp only [Act.put, List.setIfInBounds_toArray, List.set_cons_zero, List.set_cons_succ]
            refine wpAnyH_done (by kernel_rfl) ?_ _
            clear hHeld
            have HI2 := Lib.hid AG1.out.1
            have HA2 := Lib.hid AG1.out.2.1
            have HM2 := Lib.hid AG1.out.2.2
            have HFR2 : Hid (FR false sa2 (sa2.fz f')) := .inr ⟨rfl, f', g0, rfl⟩
            clear RI RA RM AG1 CA DD HY HY6 H5 H6 hne2 hne3
            obtain ⟨PL, C, c0, cle, pa, pb, la, lb, on, stt⟩ := tail_of (w := w) (ta := ta) (tb := tb) (k := 2 * i + 2) (sb := sa2.fz f') HA2.out false rfl rfl rfl HI2.out.off (by omega)
            have PA := Lib.hid pa
            have PB := Lib.hid pb
            have LA := Lib.hid la
            have LB := Lib.hid lb
            have ON := Lib.hid on
            have STT := Lib.hid stt
            have C0 := Lib.hid c0
            have CLE := Lib.hid cle
            clear pa pb la lb on stt c0 cle
            simp only [Bool.not_false] at ON
            go_wp2_with fail
            refine (PA.out _ H7.out).mono ?_
            rintro e w8 ⟨⟨A8, n8, c8, rfl, hstr, -⟩, hx⟩
            have H8 := Lib.hid (H7.out.next hx)
            have STR := Lib.hid hstr
            have hlen8 := hstr.len
            have hle8 := hstr.le
            rw [hlen8] at LA LB
            have hcl : C n8 ≤ 5000 := CLE.out n8
            obtain ⟨CN, hCN⟩ : ∃ CN, C n8 = CN := ⟨_, rfl⟩
            rw [hCN] at LA LB hcl
            have HCN := Lib.hid hCN
            have HL8 := Lib.hid hlen8
            clear hx hstr hlen8 PA hCN
            go_wp2
            go_loopw [17, 18] (fun a b wr => ∃ j : Nat, a = .int .i64 ((C j : Nat) : Int) ∧ b = .int .i64 (j : Int) ∧ j ≤ n8 ∧ Hid (Nx w8 wr)) (fun _ x _ => n8 - (intOf x).toNat)
            case atStart => exact ⟨0, by rw [C0.out]; rfl, rfl, Nat.zero_le _, Nx.refl _⟩
            case round =>
              obtain ⟨j, rfl, rfl, hj, hrel2⟩ := hrel
              have RX := Lib.hid hrel2.out
              clear hrel2
              by_cases hlt2 : j < n8
              · obtain ⟨b8, rfl, hb8, hc8⟩ := STR.out.at_ (by omega)
                have hcell := (RX.out.cell (p := ⟨b8, j, none⟩) hb8).trans (hc8 j hlt2)
                obtain ⟨d, hd, hst⟩ := STT.out j (by rw [HL8.out]; exact hlt2)
                have ST := Lib.hid hst
                have HD := Lib.hid hd
                have cj1 : C j ≤ 5000 := CLE.out j
                have cj2 : C j + d ≤ 5000 := by have := CLE.out (j + 1); rw [hd] at this; exact this
                clear hc8 hd hst
                generalize Go.Proofs.Ytodnckflobefpaa.S (PL.getD j []) = spj at *
                go_wp2_with fail
                refine (ST.out _ (H8.out.next RX.out)).mono ?_
                rintro e w9 ⟨⟨u9, rfl⟩, hx⟩
                have RX9 := Lib.hid (RX.out.trans hx)
                clear hx ST hcell
                go_wp2
                go_roundw
                case rel => exact ⟨j + 1, by rw [HD.out]; go_num, by go_num, by omega, RX9.out⟩
                case measure => simp [intOf]; omega
              · obtain rfl : j = n8 := by omega
                have H9 := Lib.hid (H8.out.next RX.out)
                have STR9 := Lib.hid (STR.out.nx RX.out)
                clear H8 STR RX STT CLE
                rw [HCN.out]
                go_wp2_with fail
                refine (PB.out _ H9.out).mono ?_
                rintro e w10 ⟨⟨A10, n10, c10, rfl, hstr2, -⟩, hx⟩
                have H10 := Lib.hid (H9.out.next hx)
                have TX := Lib.hid (texts_any w10 A8 A10 j c8 n10 c10 PL PL (STR9.out.nx hx) hstr2)
                clear hx hstr2 PB H9 STR9
                simp only [decide_true] at TX
                go_wp2_with fail
                refine TX.out.mono ?_
                rintro e w11 ⟨rfl, m11, hm11⟩
                have H11 : Hid (Liv2 w ta sa2 (2 * i + 2) tb (sa2.fz f') (2 * i + 2) w11) := by rw [hm11]; exact H10.out.next (Nx.drewN (Nx.refl _) m11)
                clear hm11 TX H10
                go_wp2_with fail
                refine (LA.out _ H11.out).mono ?_
                rintro e w12 ⟨rfl, rfl⟩
                go_wp2_with fail
                refine (LB.out _ H11.out).mono ?_
                rintro e w12 ⟨rfl, rfl⟩
                go_wp2_with fail
                refine (LA.out _ H11.out).mono ?_
                rintro e w12 ⟨rfl, rfl⟩
                go_wp2_with fail
                refine (ON.out _ H11.out).mono ?_
                rintro e w12 ⟨rfl, rfl⟩
                clear LA LB ON
                go_wp2
                go_roundw
                case rel => exact ⟨i + 1, sa2, (sa2.fz f'), false, rfl, by go_num, by omega, H11.out.up (by omega) (by omega), HI2.out, HA2.out, HFR2.out, HM2.out⟩
                case measure => simp [intOf]; omega
      · obtain rfl : i = n := by omega
        go_wp2
        go_ret
        exact ⟨rfl, REL.out.1.nx⟩
end Go.Proofs.Ytodnckflobefpaa

/- Package tree: one file of a crash, walked. -/
import Derived.Test.YtodnckflobefpaaTrU
namespace Go.Proofs.Ytodnckflobefpaa
open Go.RowKit Go.Maps
set_option linter.unusedVariables false

theorem BlkIs.drewN {w : World} {g : Nat} {t : TypeId} {cs : Array Value} (h : BlkIs w g t cs) (n : Nat) : BlkIs (w.drewN n) g t cs := h
theorem rem_len (x : Fil) (part : Int) : (x.rem part).length ≤ x.now.length ∨ (x.rem part).length ≤ x.sf.length := by
  unfold Fil.rem
  split
  · left; rw [List.length_take]; omega
  · exact .inr (Nat.le_refl _)
theorem restore_w1 {W : World} {tb : Nat} {s : St} {g : Gh} {f : Nat} {A : Option Addr} {n c : Nat} {b : Str} (h : TreeAt W tb s g) (hf : f < s.fil.length) (ho : Own W 0 A n c b) (ht : Tg g.tag A (11 + 2 * f)) {A1 A2 : Option Addr} {n1 c1 n2 c2 : Nat}
    (hb : BlkIs W (g.blk f) 69 #[.slice A1 n1 c1, .slice A2 n2 c2, .int .u64 ((s.at_ f).st : Int)]) (u : Int) :
    TreeAt (((W.setCell ⟨g.blk f, 0, none⟩ (.slice A n c)).setCell ⟨g.blk f, 1, none⟩ (.slice A n c)).setCell ⟨tb, 1, none⟩ (.int .i64 u)) tb { s with used := u, fil := s.fil.set f ⟨b, b, (s.at_ f).st⟩ } g ∧
      Chd (fun j => j = tb ∨ j = g.blk f) W (((W.setCell ⟨g.blk f, 0, none⟩ (.slice A n c)).setCell ⟨g.blk f, 1, none⟩ (.slice A n c)).setCell ⟨tb, 1, none⟩ (.int .i64 u)) := by
  have hne := blk_ne h hf
  have C2 : Chd (fun j => j = g.blk f) W ((W.setCell ⟨g.blk f, 0, none⟩ (.slice A n c)).setCell ⟨g.blk f, 1, none⟩ (.slice A n c)) := (Chd.set W _ 0 _).trans (Chd.set _ _ 1 _)
  have C3 := Chd.set ((W.setCell ⟨g.blk f, 0, none⟩ (.slice A n c)).setCell ⟨g.blk f, 1, none⟩ (.slice A n c)) tb 1 (.int .i64 u)
  have C : Chd (fun j => j = tb ∨ j = g.blk f) W _ := (C2.mono fun _ _ e => .inr e).trans (C3.mono fun _ _ e => .inl e)
  have B : BlkIs _ (g.blk f) 69 #[.slice A n c, .slice A n c, .int .u64 ((s.at_ f).st : Int)] := ((hb.set 0 (.slice A n c)).set 1 (.slice A n c)).chd C3 hne
  have T : BlkIs _ tb 64 (treeC { s with used := u, clock := s.clock } g) := (h.top.chd C2 (fun e => hne e.symm)).set 1 (.int .i64 u)
  exact ⟨restore_end h hf ho ht C B T, C⟩
theorem restore_w2 {W : World} {tb : Nat} {s : St} {g : Gh} {f : Nat} {A : Option Addr} {n c : Nat} {b : Str} (h : TreeAt W tb s g) (hf : f < s.fil.length) (ho : Own W 0 A n c b) (ht : Tg g.tag A (11 + 2 * f)) {A1 A2 : Option Addr} {n1 c1 n2 c2 : Nat}
    (hb : BlkIs W (g.blk f) 69 #[.slice A1 n1 c1, .slice A2 n2 c2, .int .u64 ((s.at_ f).st : Int)]) (u : Int) :
    TreeAt (((((W.setCell ⟨tb, 2, none⟩ (.int .u64 ((s.clock : Int) + 1))).setCell ⟨g.blk f, 2, none⟩ (.int .u64 ((s.clock : Int) + 1))).setCell ⟨g.blk f, 0, none⟩ (.slice A n c)).setCell ⟨g.blk f, 1, none⟩ (.slice A n c)).setCell ⟨tb, 1, none⟩ (.int .i64 u)) tb
        { s with used := u, clock := s.clock + 1, fil := s.fil.set f ⟨b, b, s.clock + 1⟩ } g ∧
      Chd (fun j => j = tb ∨ j = g.blk f) W (((((W.setCell ⟨tb, 2, none⟩ (.int .u64 ((s.clock : Int) + 1))).setCell ⟨g.blk f, 2, none⟩ (.int .u64 ((s.clock : Int) + 1))).setCell ⟨g.blk f, 0, none⟩ (.slice A n c)).setCell ⟨g.blk f, 1, none⟩ (.slice A n c)).setCell ⟨tb, 1, none⟩ (.int .i64 u)) := by
  have hne := blk_ne h hf
  obtain ⟨w1, hw1⟩ : ∃ w1, (W.setCell ⟨tb, 2, none⟩ (.int .u64 ((s.clock : Int) + 1))) = w1 := ⟨_, rfl⟩
  rw [hw1]
  have C1 : Chd (fun j => j = tb) W w1 := by rw [← hw1]; exact Chd.set W tb 2 _
  have T1 : BlkIs w1 tb 64 (treeC { s with clock := s.clock + 1 } g) := by rw [← hw1]; exact h.top.set 2 _
  have hb1 := hb.chd C1 hne
  obtain ⟨w2, hw2⟩ : ∃ w2, ((w1.setCell ⟨g.blk f, 2, none⟩ (.int .u64 ((s.clock : Int) + 1))).setCell ⟨g.blk f, 0, none⟩ (.slice A n c)).setCell ⟨g.blk f, 1, none⟩ (.slice A n c) = w2 := ⟨_, rfl⟩
  rw [hw2]
  have C2 : Chd (fun j => j = g.blk f) w1 w2 := by rw [← hw2]; exact ((Chd.set w1 _ 2 _).trans (Chd.set _ _ 0 _)).trans (Chd.set _ _ 1 _)
  have B2 : BlkIs w2 (g.blk f) 69 #[.slice A n c, .slice A n c, .int .u64 ((s.clock + 1 : Nat) : Int)] := by rw [← hw2]; exact ((hb1.set 2 _).set 0 (.slice A n c)).set 1 (.slice A n c)
  have C3 := Chd.set w2 tb 1 (.int .i64 u)
  have C : Chd (fun j => j = tb ∨ j = g.blk f) W (w2.setCell ⟨tb, 1, none⟩ (.int .i64 u)) := ((C1.mono fun _ _ e => .inl e).trans (C2.mono fun _ _ e => .inr e)).trans (C3.mono fun _ _ e => .inl e)
  have T : BlkIs (w2.setCell ⟨tb, 1, none⟩ (.int .i64 u)) tb 64 (treeC { s with used := u, clock := s.clock + 1 } g) := (T1.chd C2 (fun e => hne e.symm)).set 1 (.int .i64 u)
  exact ⟨restore_end h hf ho ht C (B2.chd C3 hne) T, C⟩
set_option maxRecDepth 100000 in
theorem restore_any (w : World) (tb : Nat) (s : St) (g : Gh) {k : Nat} (hk : k ≤ 1000) (h : TreeAt w tb s g) (ok : Ok k s) (p : Str) (hp : p.length ≤ 1000000000000) (f : Nat) (hl : look s.files p = some f) (was : Option Nat) (hwas : ∀ i, was = some i → i < s.fil.length) (part : Int) (hpart : part ≤ 9223372036854775807) :
    Calls Try.prog 46 #[.pointer (some ⟨tb, 0, none⟩), .string (S p), optP g was, .int .i64 part] w fun e w' =>
      e = .returned (.tuple #[]) ∧ TreeAt w' tb (s.restore p f was part) g ∧ Chd (fun j => j = tb ∨ j = g.blk f) w w' := by
  have hlt : f < s.fil.length := ok.fs _ (look_mem hl)
  have c3 := (top_of h.top).c3
  have hlk := lookup_in h.mfA p hp g rfl
  rw [hl] at hlk
  have RM := Lib.hid (remaining_any w g.tag (g.blk f) f (s.at_ f) (h.fil f hlt) (by have := ok.sz f; omega) part hpart)
  have hlen : ((s.at_ f).rem part).length ≤ 10000000 := by
    have := ok.sz f
    have := ok.sy f
    rcases rem_len (s.at_ f) part with e | e <;> omega
  obtain ⟨A1, n1, c1, A2, n2, c2, hbk, o1, o2, hal, t1, t2⟩ := (h.fil f hlt).ex
  have hne := blk_ne h hlt
  have u0 : -10000000000000 ≤ s.used := by have := ok.u0; omega
  have u1 : s.used ≤ 10000000000000 := by have := ok.u1; omega
  have k1 : (s.clock : Int) ≤ 10000000 := by have := ok.ck; omega
  have E0 : Hid (∀ A n c m, Own w 0 A n c ((s.at_ f).rem part) → Calls Try.prog 58 #[.slice A n c, .slice A1 n1 c1] (w.drewN m) fun e w' => e = .returned (.bool ((s.at_ f).rem part == (s.at_ f).now)) ∧ w' = w.drewN m) := fun A n c m ho =>
    equal_at (w.drewN m) (ho.arg.nx (Nx.drewN (Nx.refl _) _)) (o1.arg.nx (Nx.drewN (Nx.refl _) _))
  have PN : Hid (∀ m, (binOp .neq 66 (fptr (g.blk f)) (optP g was)).run Try.prog (w.drewN m) = .ok (.bool (!decide (was = some f))) (w.drewN m)) := fun m => by
    cases was with
    | none =>
      have := run_neq_pointer_nil (P := Try.prog) (w.drewN m) 66 (some ⟨g.blk f, 0, none⟩) Try.underlying66
      simpa [fptr, optP] using this
    | some i =>
      by_cases e : i = f
      · subst e
        have := run_neq_ptr_same (w.drewN m) ⟨g.blk i, 0, none⟩
        simpa [fptr, optP] using this
      · obtain ⟨_, _, _, _, _, _, hbi, _⟩ := (h.fil i (hwas i rfl)).ex
        have := run_neq_ptr_other (w.drewN m) (a := g.blk f) (b := g.blk i) (fun e2 => e (blk_inj h (hwas i rfl) hlt e2.symm)) (hbk.drewN m) (hbi.drewN m)
        rw [show decide (some i = some f) = false from by simpa using e]
        exact this
  have H := Lib.hid h
  have HB := Lib.hid hbk
  have HL := Lib.hid hlt
  clear h ok hwas hl hlt hbk o1 o2 hal t1 t2 hp
  generalize S p = sp at *
  unfold optP at hlk
  simp only at hlk
  generalize hov : optP g was = ov at *
  have HOV := Lib.hid hov
  clear hov
  go_enter Try.func46, Try.ntmps46
  go_wp2_with fail
  refine RM.out.mono ?_
  rintro e w1 ⟨A, n, c, rfl, ho, ht, m, rfl⟩
  have HO := Lib.hid ho
  have HT := Lib.hid ht
  have hn : n ≤ 10000000 := by have := ho.len; omega
  have HN : Hid (((s.at_ f).rem part).length = n) := ho.len
  clear ho ht RM c3 hlk
  have hpn := PN.out m
  have TM := Lib.hid (H.out.nx (Nx.drewN (Nx.refl w) m))
  have BM := Lib.hid (HB.out.drewN m)
  have OM := Lib.hid (show Own (w.drewN m) 0 A n c ((s.at_ f).rem part) from HO.out)
  have EM := Lib.hid (E0.out A n c m HO.out)
  obtain ⟨W, hW⟩ : ∃ W, w.drewN m = W := ⟨_, rfl⟩
  have CW : Hid (Nx w W) := by rw [← hW]; exact Nx.drewN (Nx.refl w) m
  rw [hW] at hpn TM BM OM EM ⊢
  have cu := (top_of TM.out.top).c1
  have ck := (top_of TM.out.top).c2
  have fu := TM.out.top.frozen 1
  have fk := TM.out.top.frozen 2
  have b0 : W.cell? ⟨g.blk f, 0, none⟩ = some (.slice A1 n1 c1) := by rw [BM.out.cell]; rfl
  have b1 : W.cell? ⟨g.blk f, 1, none⟩ = some (.slice A2 n2 c2) := by rw [BM.out.cell]; rfl
  have b2 : W.cell? ⟨g.blk f, 2, none⟩ = some (.int .u64 ((s.at_ f).st : Int)) := by rw [BM.out.cell]; rfl
  have g0 := BM.out.frozen 0
  have g1 := BM.out.frozen 1
  have g2 := BM.out.frozen 2
  have R1 := Lib.hid (restore_w1 TM.out HL.out OM.out HT.out BM.out (s.used + (n : Int)))
  have R2 := Lib.hid (restore_w2 TM.out HL.out OM.out HT.out BM.out (s.used + (n : Int)))
  have hne2 : tb ≠ g.blk f := fun e => hne e.symm
  have e1 := restore_yes s p f was part
  have e2 := restore_no s p f was part
  rw [HN.out] at e1 e2
  have KP : keeps s f was part = (decide (was = some f) && ((s.at_ f).rem part == (s.at_ f).now)) := rfl
  unfold fptr at hpn ⊢
  have HKP := Lib.hid KP
  have He1 := Lib.hid e1
  have He2 := Lib.hid e2
  have HWW := Lib.hid hW
  clear KP e1 e2 hW PN E0 H HB HO
  generalize (s.at_ f).st = st0 at b2
  generalize decide (was = some f) = q at *
  generalize hqe : ((s.at_ f).rem part == (s.at_ f).now) = qe at *
  clear hqe
  cases q with
  | true =>
    cases qe with
    | true =>
      have hSr := He1.out HKP.out
      have R1a := R1.out
      rw [← hSr] at R1a
      have R1' := Lib.hid R1a
      clear R1a
      clear hSr He1 He2 HKP R1 R2
      go_wp2_with fail
      refine EM.out.mono ?_
      rintro e w5 ⟨rfl, rfl⟩
      clear EM
      go_wp2
      refine bodyPost_end (results_none rfl _ _ _) rfl ?_
      exact ⟨rfl, R1'.out.1, (Nx.chd CW.out).trans R1'.out.2⟩
    | false =>
      have hSr := He2.out HKP.out
      have R1a := R2.out
      rw [← hSr] at R1a
      have R2' := Lib.hid R1a
      clear R1a
      clear hSr He1 He2 HKP R1 R2
      go_wp2_with fail
      refine EM.out.mono ?_
      rintro e w5 ⟨rfl, rfl⟩
      clear EM
      go_wp2
      refine bodyPost_end (results_none rfl _ _ _) rfl ?_
      exact ⟨rfl, R2'.out.1, (Nx.chd CW.out).trans R2'.out.2⟩
  | false =>
    have hSr := He2.out (by rw [HKP.out]; rfl)
    have R1a := R2.out
    rw [← hSr] at R1a
    have R2' := Lib.hid R1a
    clear R1a
    clear hSr He1 He2 HKP R1 R2 EM
    go_wp2
    refine bodyPost_end (results_none rfl _ _ _) rfl ?_
    exact ⟨rfl, R2'.out.1, (Nx.chd CW.out).trans R2'.out.2⟩
end Go.Proofs.Ytodnckflobefpaa

/- Walks of the document's answers: its readers. Piece. -/
import Derived.Test.YtpgjnmakpghamaaDoc3
namespace Go.Proofs.Ytpgjnmakpghamaa
open Go.RowKit
set_option linter.unusedVariables false

theorem dn_piece1 (w : World) (B g n c at_ : Nat) (A : Option Addr) (l : List UInt8) (er : Int) (he : er ≠ 0) (h : DRdr w B g A n c l at_ er) :
    Calls Try.prog 30 #[.pointer (some ⟨g, 0, none⟩)] w (DPost w B g A n c l at_ er (.string ⟨#[]⟩)) := by
  have h2 := h.c2
  have H := Lib.hid h
  have eb : (er == 0) = false := by simpa using he
  have eb2 : (er != 0) = true := by simpa using he
  clear h he
  go_enter Try.func30, Try.ntmps30
  go_wp2
  go_ret
  exact DPost.same H.out _

set_option maxRecDepth 100000 in
set_option maxHeartbeats 2000000 in
theorem dn_piece0 (w : World) (B g n c at_ : Nat) (A : Option Addr) (l : List UInt8) (h : DRdr w B g A n c l at_ 0) :
    Calls Try.prog 30 #[.pointer (some ⟨g, 0, none⟩)] w (DPost w B g A n c l (at_ + (pcs (l.drop at_)).2.1) ((pcs (l.drop at_)).2.2 : Nat) (.string ⟨(pcs (l.drop at_)).1.toArray⟩)) := by
  have h0 := h.c0
  have h1 := h.c1
  have h2 := h.c2
  have f1 := h.blk.frozen 1
  have f2 := h.blk.frozen 2
  have H := Lib.hid h
  have Hn := Lib.hid (dnext_any w B g n c at_ A l 0 h)
  have hle := num_le (l.drop at_)
  have herr := num_err (l.drop at_)
  have hxlt := num_lt (l.drop at_)
  have hlen := h.own.len
  have hat := h.hat
  have hcap := h.own.byt.cap
  have hcl := h.own.byt.le
  unfold maxLen at hcap
  have hdl : (l.drop at_).length = n - at_ := by rw [List.length_drop, hlen]
  unfold pcs
  rw [hdl] at hle ⊢
  clear h hlen hdl
  generalize num (l.drop at_) = r at *
  obtain ⟨x, k, er⟩ := r
  simp only at hle herr hxlt
  by_cases he : er = 0
  · subst he
    have hk := hle rfl
    simp only [ne_eq, not_true_eq_false, if_false]
    by_cases hbig : 1048576 < x
    · simp only [if_pos hbig]
      have hfin : DPost w B g A n c l (at_ + 0) 3 (.string ⟨#[]⟩) (.returned (.string ⟨#[]⟩)) (w.setCell ⟨g, 2, none⟩ (.int .i64 3)) := ⟨rfl, H.out.set2 3, grown_setCell _ _ _ _⟩
      have Hfin := Lib.hid hfin
      clear hle herr hfin hcap hcl
      go_enter Try.func30, Try.ntmps30
      go_wp2_with fail
      refine Hn.out.mono ?_
      rintro e w' ⟨rfl, rfl⟩
      unfold dnextV
      simp only [if_true]
      go_wp2
      go_ret
      exact Hfin.out
    · simp only [if_neg hbig]
      obtain ⟨p, hp⟩ : ∃ p, at_ + k = p := ⟨_, rfl⟩
      have hpn : p ≤ n := by omega
      have e7 : IntKind.i64.wrap ((n : Int) - (p : Nat)) = ((n - p : Nat) : Int) := by rw [IntWalk.i64_in _ (by omega)]; omega
      have e8 : IntKind.u64.wrap ((n - p : Nat) : Int) = ((n - p : Nat) : Int) := IntWalk.u64_in _ (by omega)
      by_cases hmore : n - at_ - k < x
      · simp only [if_pos hmore]
        have b7 : n - p < x := by omega
        have hfin : DPost w B g A n c l (at_ + 0) 5 (.string ⟨#[]⟩) (.returned (.string ⟨#[]⟩)) (w.setCell ⟨g, 2, none⟩ (.int .i64 5)) := ⟨rfl, H.out.set2 5, grown_setCell _ _ _ _⟩
        have Hfin := Lib.hid hfin
        have Hp := Lib.hid hp
        clear hle herr hfin hcap hcl hp hmore hk
        go_enter Try.func30, Try.ntmps30
        go_wp2_with fail
        refine Hn.out.mono ?_
        rintro e w' ⟨rfl, rfl⟩
        unfold dnextV
        simp only [if_true, Hp.out]
        go_wp2
        go_ret
        exact Hfin.out
      · simp only [if_neg hmore]
        have b7 : ¬ n - p < x := by omega
        have hq2 : p + x ≤ n := by omega
        have hp0 : 0 < p := by omega
        have ex2 : IntKind.i64.wrap (x : Int) = x := IntWalk.i64_in _ (by omega)
        have ex3 : IntKind.i64.wrap ((p : Int) + x) = (p : Int) + x := IntWalk.i64_in _ (by omega)
        have hlst : ((l.drop at_).drop k).take x = (l.take (p + x)).drop p := by
          rw [List.drop_drop, hp, List.drop_take]
          congr 1
          omega
        obtain ⟨b, o, hA, hblt, _⟩ := H.out.own.byt.lies (by omega)
        subst hA
        have hcut := H.out.own.byt.cut (lo := p) (hi := p + x) (by omega) hq2
        rw [show p + x - p = x by omega, ← hlst] at hcut
        have hr4 := H.out.set1 hq2
        have hg4 := grown_setCell w g 1 (.int .i64 (p + x : Nat))
        obtain ⟨W4, hW4⟩ : ∃ W4, W4 = w.setCell ⟨g, 1, none⟩ (.int .i64 (p + x : Nat)) := ⟨_, rfl⟩
        have hne := H.out.ne
        rw [← hW4] at hr4 hg4
        have hcut4 : Byt W4 W4.heap.size (if c = p then some ⟨b, o, none⟩ else (some (⟨b, o, none⟩ : Addr)).map (·.add p)) x (c - p) (((l.drop at_).drop k).take x) := by
          have := hr4.own.byt.cut (lo := p) (hi := p + x) (by omega) hq2
          rw [show p + x - p = x by omega, ← hlst] at this
          exact this
        push_cast at hW4
        have HW4 := Lib.hid hW4
        have Hend : Hid (∀ q, DPost w B g (some ⟨b, o, none⟩) n c l (at_ + (k + x)) ((0 : Nat) : Int) (.string ⟨(((l.drop at_).drop k).take x).toArray⟩) (.returned (.string ⟨(((l.drop at_).drop k).take x).toArray⟩)) (W4.drewN q)) :=
          fun q => ⟨rfl, by rw [← Nat.add_assoc, hp]; exact hr4.drewN q, grown_drewN hg4 q⟩
        have r0 := hr4.c0
        have r1 := hr4.c1
        push_cast at r1
        have Hp := Lib.hid hp
        have i0 : p ≤ c := by omega
        have i1 : (p : Int) ≤ p + x := by omega
        have i2 : (p : Int) + x ≤ n := by omega
        have i3 : (p : Int) + x ≤ c := by omega
        clear hle herr hcap hp hmore hk hlst hcut hr4 hg4 hW4 hne
        by_cases hcp : c = p
        · rw [if_pos hcp, hcp, Nat.sub_self] at hcut4
          have hx0 : x = 0 := by omega
          subst hcp
          have hcv : ∀ q, (convert 24 9 (.slice (some ⟨b, o, none⟩) 0 0)).run Try.prog (W4.drewN q) = .ok (.string ⟨(((l.drop at_).drop k).take x).toArray⟩) (W4.drewN q) := fun q => by
            have := run_string_of_bytes (w := W4.drewN q) (B := W4.heap.size) ⟨hcut4.len, hcut4.le, hcut4.cap, hcut4.lies⟩
            rw [hx0] at this ⊢
            exact this
          have Hx0 := Lib.hid hx0
          clear hcut4 hx0
          go_enter Try.func30, Try.ntmps30
          go_wp2_with fail
          refine Hn.out.mono ?_
          rintro e w' ⟨rfl, rfl⟩
          unfold dnextV
          simp only [if_true, Hp.out]
          go_wp2_with fail
          rw [← HW4.out]
          go_quiet (fail)
          go_wp2
          go_ret
          refine And.intro ?_ (Hend.out nq).2
          simp [List.drop_drop]
        · rw [if_neg hcp] at hcut4
          simp only [Option.map_some, add_plain] at hcut4
          have hcv : ∀ q, (convert 24 9 (.slice (some ⟨b, o + p, none⟩) x (c - p))).run Try.prog (W4.drewN q) = .ok (.string ⟨(((l.drop at_).drop k).take x).toArray⟩) (W4.drewN q) := fun q => run_string_of_bytes (w := W4.drewN q) (B := W4.heap.size) ⟨hcut4.len, hcut4.le, hcut4.cap, hcut4.lies⟩
          clear hcut4
          go_enter Try.func30, Try.ntmps30
          go_wp2_with fail
          refine Hn.out.mono ?_
          rintro e w' ⟨rfl, rfl⟩
          unfold dnextV
          simp only [if_true, Hp.out]
          go_wp2_with fail
          rw [← HW4.out]
          go_quiet (fail)
          go_wp2
          go_ret
          refine And.intro ?_ (Hend.out nq).2
          simp [List.drop_drop]
  · obtain ⟨rfl, rfl, -⟩ := herr he
    obtain ⟨E, hE⟩ : ∃ E : Int, ((er : Nat) : Int) = E := ⟨_, rfl⟩
    have eb : (E == 0) = false := by simp; omega
    have eb2 : (E != 0) = true := by simp; omega
    have hfin : DPost w B g A n c l (at_ + 0) E (.string ⟨#[]⟩) (.returned (.string ⟨#[]⟩)) (w.setCell ⟨g, 2, none⟩ (.int .i64 E)) := ⟨rfl, H.out.set2 E, grown_setCell _ _ _ _⟩
    have Hfin := Lib.hid hfin
    have Her := Lib.hid he
    have HE := Lib.hid hE
    clear hle herr hfin he hE
    simp only [ne_eq, Her.out, not_false_eq_true, if_true]
    go_enter Try.func30, Try.ntmps30
    go_wp2_with fail
    refine Hn.out.mono ?_
    rintro e w' ⟨rfl, rfl⟩
    unfold dnextV
    simp only [if_neg Her.out, HE.out]
    go_wp2
    go_ret
    rw [HE.out]
    exact Hfin.out
end Go.Proofs.Ytpgjnmakpghamaa

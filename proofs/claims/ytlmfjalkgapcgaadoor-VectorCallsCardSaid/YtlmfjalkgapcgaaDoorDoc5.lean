/- Walks of the document's answers: its readers. Count. -/
import Derived.Test.YtlmfjalkgapcgaaDoorDoc4
namespace Go.Proofs.YtlmfjalkgapcgaaDoor
open Go.RowKit
set_option linter.unusedVariables false

theorem dn_count1 (w : World) (B g n c at_ : Nat) (A : Option Addr) (l : List UInt8) (er m : Int) (he : er ≠ 0) (h : DRdr w B g A n c l at_ er) :
    Calls Tryd.prog 66 #[.pointer (some ⟨g, 0, none⟩), .int .i64 m] w (DPost w B g A n c l at_ er (.int .i64 0)) := by
  have h2 := h.c2
  have H := Lib.hid h
  have eb : (er == 0) = false := by simpa using he
  have eb2 : (er != 0) = true := by simpa using he
  clear h he
  go_enter Tryd.func66, Tryd.ntmps66
  go_wp2
  go_ret
  exact DPost.same H.out _

set_option maxRecDepth 100000 in
set_option maxHeartbeats 2000000 in
theorem dn_count0 (w : World) (B g n c at_ : Nat) (A : Option Addr) (l : List UInt8) (m : Int) (hm : m ≤ 9223372036854775807) (h : DRdr w B g A n c l at_ 0) :
    Calls Tryd.prog 66 #[.pointer (some ⟨g, 0, none⟩), .int .i64 m] w (DPost w B g A n c l (at_ + (cnt m.toNat (l.drop at_)).2.1) ((cnt m.toNat (l.drop at_)).2.2 : Nat) (.int .i64 ((cnt m.toNat (l.drop at_)).1 : Nat))) := by
  have h0 := h.c0
  have h1 := h.c1
  have h2 := h.c2
  have f1 := h.blk.frozen 1
  have f2 := h.blk.frozen 2
  have H := Lib.hid h
  have Hn := Lib.hid (dnext_any w B g n c at_ A l 0 h)
  have hle := num_le (l.drop at_)
  have herr := num_err (l.drop at_)
  have hxlt := num_lt (l.drop at_)
  have hlen := h.own.len
  have hat := h.hat
  rw [List.length_drop, hlen] at hle
  unfold cnt
  clear h hlen
  generalize num (l.drop at_) = r at *
  obtain ⟨x, k, er⟩ := r
  simp only at hle herr hxlt
  by_cases he : er = 0
  · subst he
    have hk := hle rfl
    simp only [ne_eq, not_true_eq_false, if_false]
    have Hn2 : Hid (at_ + k ≤ n) := by unfold Hid; omega
    by_cases hbig : m.toNat < x
    · simp only [if_pos hbig]
      have hfin : DPost w B g A n c l (at_ + 0) 3 (.int .i64 0) (.returned (.int .i64 0)) (w.setCell ⟨g, 2, none⟩ (.int .i64 3)) := ⟨rfl, H.out.set2 3, grown_setCell _ _ _ _⟩
      have Hfin := Lib.hid hfin
      clear hle herr hfin hk
      by_cases hm0 : m ≤ 0
      · have hx0 : (0 : Int) < x := by omega
        have e1 : max 0 m = 0 := by omega
        have e2 : max m 0 = 0 := by omega
        go_enter Tryd.func66, Tryd.ntmps66
        go_wp2_with fail
        refine Hn.out.mono ?_
        rintro e w' ⟨rfl, rfl⟩
        unfold dnextV
        simp only [if_true]
        go_wp2
        all_goals (go_ret; exact Hfin.out)
      · have hx0 : m < x := by omega
        have hm1 : 0 ≤ m := by omega
        have e1 : max 0 m = m := by omega
        have e2 : max m 0 = m := by omega
        have e3 : IntKind.u64.wrap m = m := IntWalk.u64_in _ (by omega)
        go_enter Tryd.func66, Tryd.ntmps66
        go_wp2_with fail
        refine Hn.out.mono ?_
        rintro e w' ⟨rfl, rfl⟩
        unfold dnextV
        simp only [if_true]
        go_wp2
        all_goals (go_ret; exact Hfin.out)
    · simp only [if_neg hbig]
      have hfin : DPost w B g A n c l (at_ + k) ((0 : Nat) : Int) (.int .i64 (x : Nat)) (.returned (.int .i64 (x : Nat))) (w.setCell ⟨g, 1, none⟩ (.int .i64 (at_ + k : Nat))) := ⟨rfl, H.out.set1 Hn2.out, grown_setCell _ _ _ _⟩
      have Hfin := Lib.hid hfin
      push_cast at Hfin
      clear hle herr hfin hk
      by_cases hm0 : m ≤ 0
      · obtain rfl : x = 0 := by omega
        have e1 : max 0 m = 0 := by omega
        have e2 : max m 0 = 0 := by omega
        go_enter Tryd.func66, Tryd.ntmps66
        go_wp2_with fail
        refine Hn.out.mono ?_
        rintro e w' ⟨rfl, rfl⟩
        unfold dnextV
        simp only [if_true]
        push_cast
        go_wp2
        all_goals (go_ret; exact Hfin.out)
      · have hx0 : (x : Int) ≤ m := by omega
        have hm1 : 0 ≤ m := by omega
        have e1 : max 0 m = m := by omega
        have e2 : max m 0 = m := by omega
        have e3 : IntKind.u64.wrap m = m := IntWalk.u64_in _ (by omega)
        have e4 : IntKind.i64.wrap (x : Int) = x := IntWalk.i64_in _ (by omega)
        go_enter Tryd.func66, Tryd.ntmps66
        go_wp2_with fail
        refine Hn.out.mono ?_
        rintro e w' ⟨rfl, rfl⟩
        unfold dnextV
        simp only [if_true]
        push_cast
        go_wp2
        all_goals (go_ret; exact Hfin.out)
  · obtain ⟨rfl, rfl, -⟩ := herr he
    obtain ⟨E, hE⟩ : ∃ E : Int, ((er : Nat) : Int) = E := ⟨_, rfl⟩
    have eb : (E == 0) = false := by simp; omega
    have eb2 : (E != 0) = true := by simp; omega
    have hfin : DPost w B g A n c l (at_ + 0) E (.int .i64 0) (.returned (.int .i64 0)) (w.setCell ⟨g, 2, none⟩ (.int .i64 E)) := ⟨rfl, H.out.set2 E, grown_setCell _ _ _ _⟩
    have Hfin := Lib.hid hfin
    have Her := Lib.hid he
    have HE := Lib.hid hE
    clear hle herr hfin he hE
    simp only [ne_eq, Her.out, not_false_eq_true, if_true]
    go_enter Tryd.func66, Tryd.ntmps66
    go_wp2_with fail
    refine Hn.out.mono ?_
    rintro e w' ⟨rfl, rfl⟩
    unfold dnextV
    simp only [if_neg Her.out, HE.out]
    go_wp2
    go_ret
    rw [HE.out]
    exact Hfin.out
end Go.Proofs.YtlmfjalkgapcgaaDoor

/- Walks of the document's answers: its readers. Number, Piece, Count. -/
import Derived.Test.YtlmfjalkgapcgaaDoorDoc2
namespace Go.Proofs.YtlmfjalkgapcgaaDoor
open Go.RowKit
set_option linter.unusedVariables false

/-- A method's answer v; the reader then stands at a2, with the error e2. -/
def DPost (w : World) (B g : Nat) (A : Option Addr) (n c : Nat) (l : List UInt8) (a2 : Nat) (e2 : Int) (v : Value) (e : Ending) (w' : World) : Prop :=
  e = .returned v ∧ DRdr w' B g A n c l a2 e2 ∧ w.grownBy w' (some g)
section
variable {w : World} {B g n c at_ : Nat} {A : Option Addr} {l : List UInt8} {e : Int}
theorem DPost.same (h : DRdr w B g A n c l at_ e) (v : Value) : DPost w B g A n c l at_ e v (.returned v) w := ⟨rfl, h, World.grownBy.refl w _⟩
theorem grown_setCell (w : World) (g i : Nat) (u : Value) : w.grownBy (w.setCell ⟨g, i, none⟩ u) (some g) :=
  ⟨rfl, rfl, rfl, by simp, fun k _ hk => heap_setCell_other w ⟨g, i, none⟩ k u (fun e => hk (by simp [e]))⟩
theorem DRdr.set1 (h : DRdr w B g A n c l at_ e) {p : Nat} (hp : p ≤ n) : DRdr (w.setCell ⟨g, 1, none⟩ (.int .i64 p)) B g A n c l p e := h.turn (grown_setCell w g 1 _) (h.blk.set 1 _) hp
theorem DRdr.set2 (h : DRdr w B g A n c l at_ e) (e2 : Int) : DRdr (w.setCell ⟨g, 2, none⟩ (.int .i64 e2)) B g A n c l at_ e2 := h.turn (grown_setCell w g 2 _) (h.blk.set 2 _) h.hat
end

set_option maxRecDepth 100000 in
theorem dn_number0 (w : World) (B g n c at_ : Nat) (A : Option Addr) (l : List UInt8) (h : DRdr w B g A n c l at_ 0) :
    Calls Tryd.prog 67 #[.pointer (some ⟨g, 0, none⟩)] w (DPost w B g A n c l (at_ + (num (l.drop at_)).2.1) ((num (l.drop at_)).2.2 : Nat) (.int .u64 ((num (l.drop at_)).1 : Nat))) := by
  have h0 := h.c0
  have h1 := h.c1
  have h2 := h.c2
  have f1 := h.blk.frozen 1
  have f2 := h.blk.frozen 2
  have H := Lib.hid h
  have Hn := Lib.hid (dnext_any w B g n c at_ A l 0 h)
  have hle := num_le (l.drop at_)
  have herr := num_err (l.drop at_)
  have hlen := h.own.len
  rw [List.length_drop, hlen] at hle
  have hat := h.hat
  clear h hlen
  generalize num (l.drop at_) = r at *
  obtain ⟨x, k, er⟩ := r
  simp only at hle herr
  by_cases he : er = 0
  · subst he
    have hk := hle rfl
    have hp : at_ + k ≤ n := by omega
    have hfin : DPost w B g A n c l (at_ + k) ((0 : Nat) : Int) (.int .u64 (x : Nat)) (.returned (.int .u64 (x : Nat))) (w.setCell ⟨g, 1, none⟩ (.int .i64 (at_ + k : Nat))) := ⟨rfl, H.out.set1 hp, grown_setCell _ _ _ _⟩
    have Hfin := Lib.hid hfin
    push_cast at Hfin
    clear hle herr hfin hk hp
    go_enter Tryd.func67, Tryd.ntmps67
    go_wp2_with fail
    refine Hn.out.mono ?_
    rintro e w' ⟨rfl, rfl⟩
    unfold dnextV
    simp only [if_true]
    push_cast
    go_wp2
    go_ret
    exact Hfin.out
  · obtain ⟨rfl, rfl, -⟩ := herr he
    obtain ⟨E, hE⟩ : ∃ E : Int, ((er : Nat) : Int) = E := ⟨_, rfl⟩
    have eb : (E == 0) = false := by simp; omega
    have eb2 : (E != 0) = true := by simp; omega
    have hfin : DPost w B g A n c l (at_ + 0) E (.int .u64 0) (.returned (.int .u64 0)) (w.setCell ⟨g, 2, none⟩ (.int .i64 E)) := ⟨rfl, H.out.set2 E, grown_setCell _ _ _ _⟩
    have Hfin := Lib.hid hfin
    have Her := Lib.hid he
    have HE := Lib.hid hE
    clear hle herr hfin he hE
    go_enter Tryd.func67, Tryd.ntmps67
    go_wp2_with fail
    refine Hn.out.mono ?_
    rintro e w' ⟨rfl, rfl⟩
    unfold dnextV
    simp only [if_neg Her.out, HE.out]
    go_wp2
    go_ret
    rw [HE.out]
    exact Hfin.out
theorem dn_number1 (w : World) (B g n c at_ : Nat) (A : Option Addr) (l : List UInt8) (er : Int) (he : er ≠ 0) (h : DRdr w B g A n c l at_ er) :
    Calls Tryd.prog 67 #[.pointer (some ⟨g, 0, none⟩)] w (DPost w B g A n c l at_ er (.int .u64 0)) := by
  have h2 := h.c2
  have H := Lib.hid h
  have eb : (er == 0) = false := by simpa using he
  have eb2 : (er != 0) = true := by simpa using he
  clear h he
  go_enter Tryd.func67, Tryd.ntmps67
  go_wp2
  go_ret
  exact DPost.same H.out _
end Go.Proofs.YtlmfjalkgapcgaaDoor

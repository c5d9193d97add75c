/- Walks of package wire: Number, Piece. -/
import Derived.Test.YtlmfjalkgapcgaaDoorWiCat
namespace Go.Proofs.YtlmfjalkgapcgaaDoor
open Go.RowKit

theorem Below.step {w w1 w2 : World} {B1 : Nat} (h : Below w.heap.size w w1) (h2 : Below B1 w1 w2) (hB : w.heap.size ≤ B1) : Below w.heap.size w w2 := h.trans (h2.mono hB)

theorem number_any (w : World) (B : Nat) (A : Option Addr) (n c : Nat) (l : List UInt8) (x : Nat) (h : Byt w B A n c l) (hB : B ≤ w.heap.size) (hx : x < 18446744073709551616) (hn : n ≤ 1099511627776) :
    Calls Tryd.prog 41 #[.slice A n c, .int .u64 x] w fun e w' => ∃ A' n' c', e = .returned (.slice A' n' c') ∧ Own w' w.heap.size A' n' c' (l ++ enc x) ∧ Below w.heap.size w w' := by
  have H := Lib.hid h
  clear h
  go_enter Tryd.func41, Tryd.ntmps41
  go_wp2_with (first
    | (go_at_call 60; (with_reducible refine (groups_any x w hx).mono ?_); rintro e w1 ⟨A1, n1, c1, rfl, hown1, hb1⟩; have hlen1 := Lib.hid hown1.len; have hl1 := enc_length x; have hsz1 := hb1.size; have hn1 : n1 ≤ 10 := by rw [← hlen1.out]; exact hl1)
    | (go_at_call 59; refine (concat_any _ w1.heap.size w1.heap.size 2 2 [⟨A, n, c, l⟩, ⟨A1, n1, c1, enc x⟩] rfl (by simp) (by simp) (PartsAt.two _ ((H.out.below hb1 hB).more (by omega)) hown1.byt (Nat.le_refl _)) (by omega) (by simp [total]; omega)).mono ?_; rintro e w2 ⟨A2, n2, c2, rfl, hown2, hb2⟩))
  go_ret
  refine ⟨A2, n2, c2, rfl, ?_, ?_⟩
  · have := hown2.more (B' := w.heap.size) (by simp; omega)
    simpa [flat] using this
  · exact Below.step (hb1.alloc hsz1 _) hb2 (by simp; omega)

end Go.Proofs.YtlmfjalkgapcgaaDoor

/- Walks of package wire: Number, Piece. -/
import Derived.Test.YtpgjnmakpghamaaCat
namespace Go.Proofs.Ytpgjnmakpghamaa
open Go.RowKit

theorem Below.step {w w1 w2 : World} {B1 : Nat} (h : Below w.heap.size w w1) (h2 : Below B1 w1 w2) (hB : w.heap.size ≤ B1) : Below w.heap.size w w2 := h.trans (h2.mono hB)

theorem number_any (w : World) (B : Nat) (A : Option Addr) (n c : Nat) (l : List UInt8) (x : Nat) (h : Byt w B A n c l) (hB : B ≤ w.heap.size) (hx : x < 18446744073709551616) (hn : n ≤ 1099511627776) :
    Calls Try.prog 12 #[.slice A n c, .int .u64 x] w fun e w' => ∃ A' n' c', e = .returned (.slice A' n' c') ∧ Own w' w.heap.size A' n' c' (l ++ enc x) ∧ Below w.heap.size w w' := by
  have H := Lib.hid h
  clear h
  go_enter Try.func12, Try.ntmps12
  go_wp2_with (first
    | (go_at_call 40; (with_reducible refine (groups_any x w hx).mono ?_); rintro e w1 ⟨A1, n1, c1, rfl, hown1, hb1⟩; have hlen1 := Lib.hid hown1.len; have hl1 := enc_length x; have hsz1 := hb1.size; have hn1 : n1 ≤ 10 := by rw [← hlen1.out]; exact hl1)
    | (go_at_call 39; refine (concat_any _ w1.heap.size w1.heap.size 2 2 [⟨A, n, c, l⟩, ⟨A1, n1, c1, enc x⟩] rfl (by simp) (by simp) (PartsAt.two _ ((H.out.below hb1 hB).more (by omega)) hown1.byt (Nat.le_refl _)) (by omega) (by simp [total]; omega)).mono ?_; rintro e w2 ⟨A2, n2, c2, rfl, hown2, hb2⟩))
  go_ret
  refine ⟨A2, n2, c2, rfl, ?_, ?_⟩
  · have := hown2.more (B' := w.heap.size) (by simp; omega)
    simpa [flat] using this
  · exact Below.step (hb1.alloc hsz1 _) hb2 (by simp; omega)

theorem piece_long (w : World) (A : Option Addr) (n c : Nat) (s : ByteArray) (hs : 1048576 < s.size) (hs2 : s.size ≤ maxLen) :
    Calls Try.prog 15 #[.slice A n c, .string s] w fun e w' => e = .returned (.tuple #[.slice none 0 0, .int .i64 3]) ∧ w = w' := by
  unfold maxLen at hs2
  go_enter Try.func15, Try.ntmps15
  go_wp2
  go_ret2
  exact ⟨rfl, rfl⟩

theorem piece_any (w : World) (B : Nat) (A : Option Addr) (n c : Nat) (l : List UInt8) (s : ByteArray) (h : Byt w B A n c l) (hB : B ≤ w.heap.size) (hs : s.size ≤ 1048576) (hn : n ≤ 1099511627776) :
    Calls Try.prog 15 #[.slice A n c, .string s] w fun e w' => ∃ A' n' c', e = .returned (.tuple #[.slice A' n' c', .int .i64 0]) ∧ Own w' w.heap.size A' n' c' (l ++ (enc s.size ++ s.data.toList)) ∧ Below w.heap.size w w' := by
  have H := Lib.hid h
  have hs2 : s.size ≤ maxLen := by unfold maxLen; omega
  clear h
  go_enter Try.func15, Try.ntmps15
  go_wp2_with (first
    | (go_at_call 40; (with_reducible refine (groups_any s.size w (by omega)).mono ?_); rintro e w1 ⟨A1, n1, c1, rfl, hown1, hb1⟩; have hlen1 := Lib.hid hown1.len; have hl1 := enc_length s.size; have hsz1 := hb1.size; have hn1 : n1 ≤ 10 := by rw [← hlen1.out]; exact hl1
       obtain ⟨c2, w2, hrun2, hby2, hb2, hsz2⟩ := run_bytes_of_string' w1 s hs2; have Hz := Lib.hid hsz2; clear hsz2; have hsz3 := hb2.size)
    | (go_at_call 39; refine (concat_any _ w2.heap.size w2.heap.size 3 3 [⟨A, n, c, l⟩, ⟨A1, n1, c1, enc s.size⟩, ⟨some ⟨w1.heap.size, 0, none⟩, s.size, c2, s.data.toList⟩] rfl (by simp) (by simp) (PartsAt.three _ (((H.out.below hb1 hB).below hb2 (by omega)).more (by omega)) ((hown1.byt.same hb2).more (by omega)) hby2 (Nat.le_refl _)) (by omega) (by simp [total]; omega)).mono ?_; rintro e w3 ⟨A3, n3, c3, rfl, hown3, hb3⟩))
  go_ret2
  refine ⟨A3, n3, c3, rfl, ?_, ?_⟩
  · have := hown3.more (B' := w.heap.size) (by simp; omega)
    simpa [flat] using this
  · exact Below.step ((Below.step hb1 hb2 hsz1).alloc (by omega) _) hb3 (by simp; omega)
end Go.Proofs.Ytpgjnmakpghamaa

/- Walks of the document's answers for the layer: Number, Piece, Sum, Frame, Unframe. -/
import Derived.Test.YtlmfjalkgapcgaaDoorWiEnc
import Derived.Lib.AppendStr
namespace Go.Proofs.YtlmfjalkgapcgaaDoor
open Go.RowKit
set_option linter.unusedVariables false

/-! ### Number -/
/-- What a round finds: l has the last groups, and f more may come before them. -/
def PRel (w wr : World) (x0 x1 : Nat) (A : Option Addr) (n c : Nat) : Prop :=
  ∃ (f : Nat) (l : List UInt8), Own wr w.heap.size A n c l ∧ Below w.heap.size w wr ∧ (grp f x1).reverse ++ l = enc x0 ∧ x1 < 128 ^ f ∧ n + f ≤ 10
theorem PRel.start (w : World) (x0 : Nat) (h : x0 < 18446744073709551616) :
    PRel w (w.alloc (.cells #[.int .u8 ((x0 : Int) % 128)] 5)) x0 (x0 / 128) (some ⟨w.heap.size, 0, none⟩) 1 1 := by
  refine ⟨9, [UInt8.ofNat (x0 % 128)], Own.lit w _ [UInt8.ofNat (x0 % 128)] ?_ (by simp [maxLen]), (Below.refl _ _).alloc (Nat.le_refl _) _, by simp [enc], by omega, by omega⟩
  simp [bvs]
  omega
theorem PRel.size {w wr : World} {x0 x1 : Nat} {A : Option Addr} {n c : Nat} (h : PRel w wr x0 x1 A n c) : w.heap.size ≤ wr.heap.size := by
  obtain ⟨f, l, _, hb, _⟩ := h
  exact hb.size
theorem PRel.step {w wr : World} {x0 x1 : Nat} {A : Option Addr} {n c : Nat} (h : PRel w wr x0 x1 A n c) (hx : 0 < x1) :
    ∃ l, Own (wr.alloc (.cells #[.int .u8 ((x1 : Int) % 128 + 128)] 5)) w.heap.size (some ⟨wr.heap.size, 0, none⟩) 1 1 [UInt8.ofNat (128 + x1 % 128)] ∧ n ≤ 10 ∧
      Byt (wr.alloc (.cells #[.int .u8 ((x1 : Int) % 128 + 128)] 5)) wr.heap.size A n c l ∧
      ∀ (A' : Option Addr) (c' : Nat) (w' : World), Own w' w.heap.size A' (1 + n) c' ([UInt8.ofNat (128 + x1 % 128)] ++ l) →
        (wr.alloc (.cells #[.int .u8 ((x1 : Int) % 128 + 128)] 5)).grownBy w' (Value.slice (some ⟨wr.heap.size, 0, none⟩) 1 1).ownBlock → PRel w w' x0 (x1 / 128) A' (1 + n) c' := by
  obtain ⟨f, l, ho, hb, he, hp, hf⟩ := h
  obtain ⟨f, rfl⟩ : ∃ g, f = g + 1 := by
    cases f with
    | zero => simp at hp; omega
    | succ g => exact ⟨g, rfl⟩
  have hlit := Own.lit wr #[.int .u8 ((x1 : Int) % 128 + 128)] [UInt8.ofNat (128 + x1 % 128)] (by simp [bvs]; omega) (by simp [maxLen])
  refine ⟨l, hlit.more hb.size, by omega, ho.byt.alloc (Nat.le_refl _) _, fun A' c' w' h1 h2 => ⟨f, _, h1, ?_, ?_, ?_, by omega⟩⟩
  · refine (hb.alloc hb.size _).grown h2 (by simp; have := hb.size; omega) fun k hk => ?_
    simp [Value.ownBlock] at hk
    have := hb.size
    omega
  · rw [grp_succ f x1 hx, List.reverse_cons, List.append_assoc] at he
    exact he
  · rw [Nat.pow_succ] at hp
    exact Nat.div_lt_of_lt_mul (by omega)

theorem rnumber_any (w : World) (B n0 c0 : Nat) (A0 : Option Addr) (l0 : List UInt8) (x0 : Nat) (h : Own w B A0 n0 c0 l0) (hB : B ≤ w.heap.size) (hx0 : x0 < 18446744073709551616) (hn0 : n0 ≤ 1099511627776) :
    Calls Tryd.prog 42 #[.slice A0 n0 c0, .int .u64 x0] w fun e w' => ∃ A n c, e = .returned (.slice A n c) ∧ Own w' B A n c (l0 ++ enc x0) ∧ Below B w w' := by
  have H := Lib.hid h
  clear h
  go_enter Tryd.func42, Tryd.ntmps42
  go_wp2
  go_loopw [1, 5] (fun x v wr => ∃ (x1 : Nat) (A : Option Addr) (n c : Nat), x = .int .u64 x1 ∧ x1 < 18446744073709551616 ∧ v = .slice A n c ∧ PRel w wr x0 x1 A n c) (fun x _ _ => (intOf x).toNat)
  case atStart => exact ⟨x0 / 128, _, _, _, by go_num, by omega, rfl, PRel.start w x0 hx0⟩
  case round =>
    obtain ⟨x1, A, n, c, rfl, hx1, rfl, hrel⟩ := hrel
    by_cases hx : 0 < x1
    · obtain ⟨l, hown, hn, hby, hstep⟩ := hrel.step hx
      have hsz := hrel.size
      have H1 := Lib.hid hstep
      clear hstep hrel
      go_wp2_with (at_builtin; refine wpList_byte_append rfl (.tmp 20) (.tmp 21) rfl w.heap.size _ 1 1 _ rfl hown wr.heap.size A n c l rfl hby (by omega) (by simp; omega) ?_; intro A2 c2 w2 hown2 hgr2 hat2; have hrel2 := H1.out A2 c2 w2 hown2 hgr2; clear hgr2 hat2 hown2)
      go_roundw
      case rel => exact ⟨x1 / 128, A2, 1 + n, c2, by go_num, by omega, rfl, hrel2⟩
      case measure => simp [intOf]; omega
    · obtain rfl : x1 = 0 := by omega
      obtain ⟨f, l, hown, hb, he, _, hn⟩ := hrel
      rw [grp_zero, List.reverse_nil, List.nil_append] at he
      subst he
      have ho2 := H.out.below hb
      have hsz := hb.size
      go_wp2_with (at_builtin; refine wpList_byte_append rfl (.tmp 23) (.tmp 24) rfl B A0 n0 c0 l0 rfl ho2 wr.heap.size A n c (enc x0) rfl hown.byt (by omega) (by omega) ?_; intro A2 c2 w2 hown2 hgr2 hat2)
      go_ret
      exact ⟨A2, _, c2, rfl, hown2, (hb.mono hB).grown hgr2 (by omega) fun k hk => (World.ownsRow.lt ho2 k hk).1⟩

/-! ### Piece -/
theorem strCells_bvs (s : ByteArray) : Lib.strCells s = bvs s.data.toList := rfl
/-! ### Sum -/
end Go.Proofs.YtlmfjalkgapcgaaDoor

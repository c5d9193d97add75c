/- Package tree: Sync, Write, Append, Read. -/
import Derived.Test.YtodnckflobefpaaTrM
namespace Go.Proofs.Ytodnckflobefpaa
open Go.RowKit Go.Maps
set_option linter.unusedVariables false

/-- Bytes that come as an argument. -/
structure Arg (w : World) (A : Option Addr) (n c : Nat) (b : Str) : Prop where
  len : b.length = n
  le : n ≤ c
  cap : c ≤ maxLen
  lies : 0 < n → ∃ j o, A = some ⟨j, o, none⟩ ∧ j < w.heap.size ∧ ∀ i, i < n → w.cell? ⟨j, o + i, none⟩ = some (.int .u8 (nth b i))
theorem Arg.chd {w w' : World} {M : Nat → Prop} {A : Option Addr} {n c : Nat} {b : Str} (h : Arg w A n c b) (hc : Chd M w w') (hm : ∀ j o, A = some ⟨j, o, none⟩ → ¬ M j) : Arg w' A n c b := ⟨h.len, h.le, h.cap, fun hn => by
  obtain ⟨j, o, e, hj, hx⟩ := h.lies hn
  exact ⟨j, o, e, Nat.lt_of_lt_of_le hj hc.size, fun i hi => by rw [World.cell?_of_block (hc.block j hj (hm j o e))]; exact hx i hi⟩⟩
theorem Arg.nx {w w' : World} {A : Option Addr} {n c : Nat} {b : Str} (h : Arg w A n c b) (k : Nx w w') : Arg w' A n c b := h.chd (M := fun _ => False) (Chd.of_below k) (fun _ _ _ e => e)
theorem Arg.byt {w : World} {A : Option Addr} {n c : Nat} {b : Str} (h : Arg w A n c b) : Byt w w.heap.size A n c b := ⟨h.len, h.le, h.cap, h.lies⟩
theorem Arg.of_byt {w : World} {B n c : Nat} {A : Option Addr} {b : Str} (h : Byt w B A n c b) (hB : B ≤ w.heap.size) : Arg w A n c b := ⟨h.len, h.le, h.cap, fun hn => by
  obtain ⟨j, o, e, hj, hx⟩ := h.lies hn
  exact ⟨j, o, e, by omega, hx⟩⟩
theorem Arg.none_eq {w : World} {n c : Nat} {b : Str} (h : Arg w none n c b) : n = 0 ∧ b = [] := by
  have h0 : n = 0 := by
    rcases Nat.eq_zero_or_pos n with e | e
    · exact e
    · obtain ⟨_, _, e, _⟩ := h.lies e; cases e
  exact ⟨h0, List.eq_nil_of_length_eq_zero (by rw [h.len, h0])⟩

theorem run_eqIn_slice (w : World) (d : Nat) (A : Option Addr) (n c : Nat) : (Op.equalIn (d + 1) 29 (.slice A n c) (.slice none 0 0)).run Try.prog w = .ok A.isNone w := by
  cases A <;> simp [Op.equalIn, run_underlying Try.underlying29]
theorem run_eq_slice (w : World) (A : Option Addr) (n c : Nat) : (binOp .eql 29 (.slice A n c) (.slice none 0 0)).run Try.prog w = .ok (.bool A.isNone) w := by
  simp only [binOp]
  simp [show Op.equal 29 (.slice A n c) (.slice none 0 0) = Op.equalIn (9999 + 1) 29 (.slice A n c) (.slice none 0 0) from rfl, run_eqIn_slice w 9999 A n c]
set_option maxRecDepth 100000 in
theorem bclone_any (w : World) (A : Option Addr) (n c : Nat) (b : Str) (h : Arg w A n c b) (hn : n ≤ 100000000) (hnil : A = none → c = 0) :
    Calls Try.prog 38 #[.slice A n c] w fun e w' => ∃ A2 c2, e = .returned (.slice A2 n c2) ∧ Own w' w.heap.size A2 n c2 b ∧ Nx w w' := by
  cases A with
  | none =>
    obtain ⟨rfl, rfl⟩ := h.none_eq
    obtain rfl := hnil rfl
    have he := run_eq_slice w none 0 0
    clear h hn hnil
    go_enter Try.func38, Try.ntmps38
    go_wp2
    go_ret
    exact ⟨none, 0, rfl, ⟨rfl, .inl ⟨rfl, rfl⟩⟩, Nx.refl _⟩
  | some ad =>
    have b1 : Below w.heap.size w (w.alloc (.cells #[] 5)) := (Below.refl _ w).alloc (Nat.le_refl _) _
    have ho : Own (w.alloc (.cells #[] 5)) w.heap.size (some ⟨w.heap.size, 0, none⟩) 0 0 [] := Own.lit w #[] [] rfl (by simp [maxLen])
    have ha := (h.nx b1).byt
    have HO := Lib.hid ho
    have HA := Lib.hid ha
    have HB := Lib.hid b1
    have he := run_eq_slice w (some ad) n c
    clear h ho ha b1 hnil
    go_enter Try.func38, Try.ntmps38
    go_wp2_with (at_builtin; refine wpList_byte_append rfl _ _ rfl w.heap.size (some ⟨w.heap.size, 0, none⟩) 0 0 [] rfl HO.out _ (some ad) n c b rfl HA.out (by omega) (by simp) ?_; intro A2 c2 w2 ho2 hg2 _)
    go_ret
    refine ⟨A2, c2, ?_, ?_, ?_⟩
    · simp
    · simpa using ho2
    · have c1 : Chd (fun j => j = w.heap.size) w w2 := (Chd.of_below HB.out).trans (Chd.of_grown hg2)
      exact c1.below (Nat.le_refl _) (fun j hj e => by omega)
end Go.Proofs.Ytodnckflobefpaa

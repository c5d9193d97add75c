/- The walk of the law WireRuns. -/
import Derived.Test.YtpgjnmakpghamaaJoin
import Derived.DataShut
namespace Go.Proofs.Ytpgjnmakpghamaa
open Go.RowKit
set_option linter.unusedVariables false

theorem Below.onR {w w1 w2 : World} (h : Below w.heap.size w w1) (h2 : Below w1.heap.size w1 w2) : Below w.heap.size w w2 := h.trans (h2.mono h.size)

/-! ### Adler's sum of bytes that are joined -/
theorem fine_chk (l : List UInt8) : fine (chk l) = true := by
  rw [fine_iff]
  unfold chk
  omega
theorem highN_append (l m : List UInt8) : highN (l ++ m) + m.length = highN l + highN m + m.length * lowN l := by
  unfold highN lowN
  rw [sumS_append, List.length_append, Nat.mul_add, Nat.mul_one]
  omega
theorem lowN_append (l m : List UInt8) : lowN (l ++ m) + 1 = lowN l + lowN m := by
  unfold lowN
  rw [sumN_append]
  omega
theorem join_arith (H L h1 h2 l1 l2 n : Nat) (hH : H + n = h1 + h2 + n * l1) (hL : L + 1 = l1 + l2) :
    (h1 % 65521 + h2 % 65521 + n % 65521 * (l1 % 65521 + 65520)) % 65521 = H % 65521 ∧ (l1 % 65521 + 65520 + l2 % 65521) % 65521 = L % 65521 := by
  constructor
  · have e1 : n % 65521 * (l1 % 65521 + 65520) % 65521 = (n * (l1 + 65520)) % 65521 := by
      rw [Nat.mod_mul_mod, Nat.mul_mod, Nat.mod_add_mod, ← Nat.mul_mod]
    have e2 : n * (l1 + 65520) = n * l1 + n * 65520 := Nat.mul_add _ _ _
    omega
  · omega
theorem chk_join (l m : List UInt8) : joined (chk l) (chk m) m.length = chk (l ++ m) := by
  have h := join_arith (highN (l ++ m)) (lowN (l ++ m)) (highN l) (highN m) (lowN l) (lowN m) m.length (highN_append l m) (lowN_append l m)
  have a1 : chk l / 65536 = highN l % 65521 := by unfold chk; omega
  have a2 : chk l % 65536 = lowN l % 65521 := by unfold chk; omega
  have b1 : chk m / 65536 = highN m % 65521 := by unfold chk; omega
  have b2 : chk m % 65536 = lowN m % 65521 := by unfold chk; omega
  unfold joined
  rw [a1, a2, b1, b2, h.1, h.2]
  rfl
theorem joinV_chk (l m : List UInt8) (n : Int) (hn : n = m.length) : joinV (chk l) (chk m) n = .tuple #[.int .u32 (chk (l ++ m) : Nat), .int .i64 0] := by
  subst hn
  unfold joinV
  rw [if_pos ⟨by omega, fine_chk _, fine_chk _⟩, Int.toNat_natCast, chk_join]

/-! ### Number, whatever error there was -/
def numA (l : List UInt8) (at_ : Nat) (er : Int) : Nat × Nat × Int := if er = 0 then ((num (l.drop at_)).1, at_ + (num (l.drop at_)).2.1, ((num (l.drop at_)).2.2 : Nat)) else (0, at_, er)
theorem rd_number (w : World) (B g n c at_ : Nat) (A : Option Addr) (l : List UInt8) (er : Int) (h : Rdr w B g A n c l at_ er) :
    Calls Try.prog 10 #[.pointer (some ⟨g, 0, none⟩)] w (RdPost w B g A n c l (numA l at_ er).2.1 (numA l at_ er).2.2 (.int .u64 ((numA l at_ er).1 : Nat))) := by
  unfold numA
  by_cases he : er = 0
  · subst he
    rw [if_pos rfl]
    exact rd_number0 w B g n c at_ A l h
  · rw [if_neg he]
    exact rd_number1 w B g n c at_ A l er he h
def pcsA (l : List UInt8) (at_ : Nat) (er : Int) : List UInt8 × Nat × Int := if er = 0 then ((pcs (l.drop at_)).1, at_ + (pcs (l.drop at_)).2.1, ((pcs (l.drop at_)).2.2 : Nat)) else ([], at_, er)
theorem rd_piece (w : World) (B g n c at_ : Nat) (A : Option Addr) (l : List UInt8) (er : Int) (h : Rdr w B g A n c l at_ er) :
    Calls Try.prog 29 #[.pointer (some ⟨g, 0, none⟩)] w (RdPost w B g A n c l (pcsA l at_ er).2.1 (pcsA l at_ er).2.2 (.string ⟨(pcsA l at_ er).1.toArray⟩)) := by
  unfold pcsA
  by_cases he : er = 0
  · subst he
    rw [if_pos rfl]
    exact rd_piece0 w B g n c at_ A l h
  · rw [if_neg he]
    exact rd_piece1 w B g n c at_ A l er he h
/-- The errors that a reader of bytes can have. -/
def okErr (er : Int) : Prop := er = 0 ∨ er = 3 ∨ er = 4 ∨ er = 5
theorem numA_err (l : List UInt8) (at_ : Nat) (er : Int) (h : okErr er) : okErr (numA l at_ er).2.2 := by
  unfold numA
  split
  · by_cases h0 : (num (l.drop at_)).2.2 = 0
    · exact .inl (by simp only; omega)
    · rcases (num_err _ h0).2.2 with h1 | h1
      · exact .inr (.inr (.inl (by simp only; omega)))
      · exact .inr (.inr (.inr (by simp only; omega)))
  · exact h
theorem pcsA_err (l : List UInt8) (at_ : Nat) (er : Int) (h : okErr er) : okErr (pcsA l at_ er).2.2 := by
  unfold pcsA
  split
  · simp only
    unfold pcs
    split
    · next h0 =>
      rcases (num_err _ h0).2.2 with h1 | h1
      · exact .inr (.inr (.inl (by simp only; omega)))
      · exact .inr (.inr (.inr (by simp only; omega)))
    · split
      · exact .inr (.inl rfl)
      · split
        · exact .inr (.inr (.inr rfl))
        · exact .inl rfl
  · exact h
/-- A reader of the rest reads what the reader reads. -/
theorem numA_rest (l : List UInt8) (p q : Nat) (er : Int) : (numA (l.drop p) q er).1 = (numA l (p + q) er).1 ∧ p + (numA (l.drop p) q er).2.1 = (numA l (p + q) er).2.1 ∧ (numA (l.drop p) q er).2.2 = (numA l (p + q) er).2.2 := by
  unfold numA
  rw [List.drop_drop]
  split
  · exact ⟨rfl, by simp only; omega, rfl⟩
  · exact ⟨rfl, rfl, rfl⟩
theorem pcsA_rest (l : List UInt8) (p q : Nat) (er : Int) : (pcsA (l.drop p) q er).1 = (pcsA l (p + q) er).1 ∧ p + (pcsA (l.drop p) q er).2.1 = (pcsA l (p + q) er).2.1 ∧ (pcsA (l.drop p) q er).2.2 = (pcsA l (p + q) er).2.2 := by
  unfold pcsA
  rw [List.drop_drop]
  split
  · exact ⟨rfl, by simp only; omega, rfl⟩
  · exact ⟨rfl, rfl, rfl⟩

/-! ### The law -/
set_option maxRecDepth 100000 in
theorem runs_out (w : World) (n1 n2 n3 c1 c2 c3 : Nat) (A1 A2 A3 : Option Addr) (m : Int) (h1 : n1 ≤ 9223372036854775807) (h2 : n2 ≤ 9223372036854775807) (h3 : n3 ≤ 9223372036854775807) (hbig : 2000 < n1 ∨ 2000 < n2 ∨ 2000 < n3) :
    Calls Try.prog 8 #[.slice A1 n1 c1, .slice A2 n2 c2, .slice A3 n3 c3, .int .i64 m] w (LivesPost w) := by
  have T : ∀ n : Nat, 2000 < n → decide ((2000 : Int) < n) = true := fun n h => by simp; omega
  have F : ∀ n : Nat, ¬ 2000 < n → decide ((2000 : Int) < n) = false := fun n h => by simp; omega
  have HT := Lib.hid T
  have HF := Lib.hid F
  clear T F
  by_cases d1 : 2000 < n1
  · have e1 := HT.out n1 d1
    go_enter Try.func8, Try.ntmps8
    go_wp2_with (go_at_call 11; (with_reducible refine (lives_any w).mono ?_); rintro e w1 ⟨rfl, hb1⟩)
    go_ret
    exact ⟨rfl, hb1⟩
  have e1 := HF.out n1 d1
  by_cases d2 : 2000 < n2
  · have e2 := HT.out n2 d2
    go_enter Try.func8, Try.ntmps8
    go_wp2_with (go_at_call 11; (with_reducible refine (lives_any w).mono ?_); rintro e w1 ⟨rfl, hb1⟩)
    go_ret
    exact ⟨rfl, hb1⟩
  have e2 := HF.out n2 d2
  have e3 := HT.out n3 (by omega)
  go_enter Try.func8, Try.ntmps8
  go_wp2_with (go_at_call 11; (with_reducible refine (lives_any w).mono ?_); rintro e w1 ⟨rfl, hb1⟩)
  go_ret
  exact ⟨rfl, hb1⟩
end Go.Proofs.Ytpgjnmakpghamaa

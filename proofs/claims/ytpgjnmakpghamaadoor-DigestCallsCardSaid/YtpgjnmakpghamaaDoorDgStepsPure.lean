/- DigestSteps: the state behind k blocks, the copy of a block, the numbers that cut. -/
import Derived.Test.YtpgjnmakpghamaaDoorDgBlock
import Derived.Test.YtpgjnmakpghamaaDoorDgParts
namespace Go.Proofs.YtpgjnmakpghamaaDoor
open Go.RowKit
set_option linter.unusedVariables false

def stAt (L : List UInt8) (k : Nat) : List Nat := (absorbs msg0 (nums (L.take (64 * k)))).st
theorem stAt_zero (L : List UInt8) : stAt L 0 = H0 := by
  unfold stAt
  rw [Nat.mul_zero, List.take_zero]
  rfl
theorem stAt_msg (L : List UInt8) (k : Nat) : MsgOk (absorbs msg0 (nums (L.take (64 * k)))) := absorbs_ok _ _ (nums_bytes _) msg0_ok
theorem stAt_succ (L : List UInt8) (k : Nat) (h : 64 * (k + 1) ≤ L.length) : stAt L (k + 1) = mixedN (stAt L k) (nums ((L.take (64 * k + 64)).drop (64 * k))) K0 := by
  have e : L.take (64 * k + 64) = L.take (64 * k) ++ (L.take (64 * k + 64)).drop (64 * k) := by
    have := (List.take_append_drop (64 * k) (L.take (64 * k + 64))).symm
    rwa [List.take_take, Nat.min_eq_left (by omega)] at this
  have hlen : (nums ((L.take (64 * k + 64)).drop (64 * k))).length = 64 := by
    rw [nums_length, List.length_drop, List.length_take]
    omega
  have hn : (absorbs msg0 (nums (L.take (64 * k)))).n % 64 = 0 := by
    rw [absorbs_n, nums_length, List.length_take]
    show (0 + _) % 64 = 0
    omega
  unfold stAt
  rw [show 64 * (k + 1) = 64 * k + 64 by omega, e, nums_append, absorbs_append]
  rw [absorbs_fill _ _ (by rw [hn, hlen])]
  have ho := stAt_msg L k
  rw [← e]
  generalize absorbs msg0 (nums (L.take (64 * k))) = m at *
  generalize nums ((L.take (64 * k + 64)).drop (64 * k)) = B at *
  show mixedN m.st (putAll m.rest (m.n % 64) B) K0 = mixedN m.st B K0
  rw [hn, putAll_full B m.rest 0 (by rw [ho.hr, hlen]), List.take_zero, List.nil_append]
theorem steps_end (l : List UInt8) (k : Nat) (h : 64 * k = (l ++ padU l.length).length) : dgN (stAt (l ++ padU l.length) k) = ofN l := by
  unfold stAt ofN digestN
  rw [h, List.take_length, nums_append, absorbs_append, absorbs_n, nums_length]
  show _ = dgN (absorbs _ (nums (padU (0 + l.length)))).st
  rw [Nat.zero_add]
theorem stAt_length (L : List UInt8) (k : Nat) : (stAt L k).length = 8 := (stAt_msg L k).hs
theorem stAt_words (L : List UInt8) (k : Nat) : Words (stAt L k) := (stAt_msg L k).sw

theorem blk_setCells {g : Nat} {t : TypeId} : ∀ (ls : List Nat) (w : World) (d : List Nat) (i : Nat), BlkIs w g t (u8s d) →
    BlkIs (w.setCells g i (ls.map fun x : Nat => Value.int .u8 (x : Int))) g t (u8s (putAll d i ls)) ∧ w.grownBy (w.setCells g i (ls.map fun x : Nat => Value.int .u8 (x : Int))) (some g)
  | [], w, d, i, h => ⟨h, World.grownBy.refl w _⟩
  | c :: r, w, d, i, h => by
    have h1 := h.set i (.int .u8 (c : Int))
    rw [u8s_set] at h1
    obtain ⟨h2, g2⟩ := blk_setCells r _ _ (i + 1) h1
    exact ⟨h2, grown_trans (grown_set w g i _) g2⟩

/-- copy, over the whole of an array of 64 bytes. -/
theorem run_copy_64 {w : World} {g : Nat} {t : TypeId} {d : List Nat} (h : BlkIs w g t (u8s d)) (hd : d.length = 64) {B c : Nat} {A : Option Addr} {l : List UInt8} (hb : Byt w B A 64 c l) (ty : TypeId) :
    (Builtin.copy_ #[33, 33] ty #[.slice (some ⟨g, 0, none⟩) 64 64, .slice A 64 c]).run Tryd.prog w =
      .ok (.int .i64 64) (w.setCells g 0 ((nums l).map fun x : Nat => Value.int .u8 (x : Int))) := by
  have hlen : (nums l).length = 64 := by rw [nums_length, hb.len]
  obtain ⟨b, o, rfl, _, hc⟩ := hb.lies (by omega)
  have := run_copy_cells (P := Tryd.prog) w 33 33 ty 5 g 0 64 64 ⟨b, o, none⟩ 64 c ((nums l).map fun x : Nat => Value.int .u8 (x : Int)) Tryd.underlying33 (by kernel_rfl)
    (by rw [List.length_map, hlen]; rfl) (fun j v hv => by
      have hj : j < l.length := by
        have := (List.getElem?_eq_some_iff.1 hv).1
        rwa [List.length_map, nums_length] at this
      rw [add_plain, hc j (by rw [← hb.len]; exact hj)]
      rw [List.getElem?_map, nums, List.getElem?_map, List.getElem?_eq_getElem hj] at hv
      rw [nth_eq l j hj]
      exact hv)
    (fun j hj => by
      rw [List.length_map, hlen] at hj
      rw [h.cell, u8s_get _ _ (by rw [hd]; omega)]
      rfl)
    (fun j hj => h.frozen _) (by
      intro v hv
      obtain ⟨x, _, rfl⟩ := List.mem_map.1 hv
      rfl)
  rw [this, List.length_map, hlen]
  rfl

/-- Numbers, as they came in. -/
structure Nums (w : World) (A : Option Addr) (n c : Nat) : Prop where
  le : n ≤ c
  cap : c ≤ maxLen
  lies : 0 < n → ∃ b o, A = some ⟨b, o, none⟩ ∧ b < w.heap.size ∧ ∀ i, i < n → ∃ z : Int, w.cell? ⟨b, o + i, none⟩ = some (.int .i64 z) ∧ -9223372036854775808 ≤ z ∧ z ≤ 9223372036854775807
end Go.Proofs.YtpgjnmakpghamaaDoor

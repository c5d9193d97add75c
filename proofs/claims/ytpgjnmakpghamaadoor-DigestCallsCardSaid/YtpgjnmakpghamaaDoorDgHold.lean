/- hold: as many bytes as there is room for. -/
import Derived.Test.YtpgjnmakpghamaaDoorDgMsg
namespace Go.Proofs.YtpgjnmakpghamaaDoor
open Go.RowKit
set_option linter.unusedVariables false

theorem msgL_rest_set (m : Msg) (ex : List Value) (i c : Nat) (hs : m.st.length = 8) (hi : i < m.rest.length) : (msgL m ex).set (8 + i) (.int .u8 (c : Int)) = msgL ⟨m.st, m.rest.set i c, m.n⟩ ex := by
  unfold msgL
  rw [List.set_append, if_neg (by simp [hs]), List.set_append, if_pos (by simp [hs]; omega)]
  simp [hs, List.map_set]
theorem msgL_size_set (m : Msg) (ex : List Value) (n : Nat) (hs : m.st.length = 8) (hr : m.rest.length = 64) : (msgL m ex).set 72 (.int .i64 (n : Int)) = msgL ⟨m.st, m.rest, n⟩ ex := by
  unfold msgL
  rw [List.set_append, if_neg (by simp [hs]), List.set_append, if_neg (by simp [hs, hr])]
  simp [hs, hr]
theorem toArray_set (l : List Value) (i : Nat) (v : Value) : l.toArray.setIfInBounds i v = (l.set i v).toArray := by simp
theorem MsgAt.put1 {w : World} {g : Nat} {t : TypeId} {ex : List Value} {m : Msg} (h : MsgAt w g t ex m) (i c : Nat) (hi : i < 64) (hc : c < 256) : MsgAt (w.setCell ⟨g, 8 + i, none⟩ (.int .u8 (c : Int))) g t ex ⟨m.st, m.rest.set i c, m.n⟩ := by
  refine ⟨?_, h.hs, by simp [h.hr], h.sw, h.rb.set i c hc⟩
  have := h.blk.set (8 + i) (.int .u8 (c : Int))
  rwa [toArray_set, msgL_rest_set m ex i c h.hs (by rw [h.hr]; exact hi)] at this
theorem MsgAt.setn {w : World} {g : Nat} {t : TypeId} {ex : List Value} {m : Msg} (h : MsgAt w g t ex m) (n : Nat) : MsgAt (w.setCell ⟨g, 72, none⟩ (.int .i64 (n : Int))) g t ex ⟨m.st, m.rest, n⟩ := by
  refine ⟨?_, h.hs, h.hr, h.sw, h.rb⟩
  have := h.blk.set 72 (.int .i64 (n : Int))
  rwa [toArray_set, msgL_size_set m ex n h.hs h.hr] at this
theorem grown_trans {w w' w'' : World} {row : Option Nat} (h : w.grownBy w' row) (h2 : w'.grownBy w'' row) : w.grownBy w'' row :=
  ⟨h2.os.trans h.os, h2.tape.trans h.tape, h2.output.trans h.output, Nat.le_trans h.size h2.size, fun k hk hr => (h2.block k (Nat.lt_of_lt_of_le hk h.size) hr).trans (h.block k hk hr)⟩
theorem MsgAt.put {g : Nat} {t : TypeId} {ex : List Value} : ∀ (ls : List Nat) (w : World) (m : Msg) (i : Nat), MsgAt w g t ex m → Bytes ls → i + ls.length ≤ 64 →
    MsgAt (w.setCells g (8 + i) (ls.map fun x : Nat => Value.int .u8 (x : Int))) g t ex ⟨m.st, putAll m.rest i ls, m.n⟩ ∧ w.grownBy (w.setCells g (8 + i) (ls.map fun x : Nat => Value.int .u8 (x : Int))) (some g)
  | [], w, m, i, h, _, _ => ⟨h, World.grownBy.refl w _⟩
  | c :: r, w, m, i, h, hb, hi => by
    simp only [List.length_cons] at hi
    have h1 := h.put1 i c (by omega) hb.cons.1
    obtain ⟨h2, g2⟩ := MsgAt.put r _ _ (i + 1) h1 hb.cons.2 (by omega)
    exact ⟨h2, grown_trans (grown_set w g (8 + i) _) g2⟩

/-- The numbers of bytes. -/
def nums (l : List UInt8) : List Nat := l.map (·.toNat)
theorem nums_length (l : List UInt8) : (nums l).length = l.length := by simp [nums]
theorem nums_bytes (l : List UInt8) : Bytes (nums l) := fun i => by
  rw [nums, List.getD, List.getElem?_map]
  cases l[i]? with
  | none => decide
  | some b => exact b.toNat_lt
theorem bytes_take (l : List Nat) (k : Nat) (h : Bytes l) : Bytes (l.take k) := fun i => by
  have := h i
  rw [List.getD] at this ⊢
  rw [List.getElem?_take]
  split
  · exact this
  · decide
theorem bvs_nums (l : List UInt8) : bvs l = (nums l).map fun x : Nat => Value.int .u8 (x : Int) := by simp [bvs, nums]

/-- copy, into the middle of a message. -/
theorem run_copy_msg {w : World} {g : Nat} {t : TypeId} {ex : List Value} {m : Msg} (h : MsgAt w g t ex m) {B nl c : Nat} {A : Option Addr} {l : List UInt8} (hb : Byt w B A nl c l) (i : Nat) (hi : i < 64) (ty : TypeId) :
    (Builtin.copy_ #[33, 33] ty #[.slice (some ⟨g, 8 + i, none⟩) (64 - i) (64 - i), .slice A nl c]).run Tryd.prog w =
      .ok (.int .i64 ((min nl (64 - i) : Nat) : Int)) (w.setCells g (8 + i) (((nums l).take (64 - i)).map fun x : Nat => Value.int .u8 (x : Int))) := by
  have hlen : ((nums l).take (64 - i)).length = min nl (64 - i) := by rw [List.length_take, nums_length, hb.len, Nat.min_comm]
  by_cases h0 : nl = 0
  · subst h0
    have hl : l = [] := List.eq_nil_of_length_eq_zero hb.len
    subst hl
    have := run_copy_none (P := Tryd.prog) w 33 33 ty 5 (some ⟨g, 8 + i, none⟩) A (64 - i) (64 - i) 0 c Tryd.underlying33 (by kernel_rfl) (by simp)
    rw [this]
    simp [nums, goInt, World.setCells]
  · obtain ⟨b, o, rfl, _, hc⟩ := hb.lies (by omega)
    have := run_copy_cells (P := Tryd.prog) w 33 33 ty 5 g (8 + i) (64 - i) (64 - i) ⟨b, o, none⟩ nl c (((nums l).take (64 - i)).map fun x : Nat => Value.int .u8 (x : Int)) Tryd.underlying33 (by kernel_rfl)
      (by rw [List.length_map, hlen]) (fun j v hv => by
        have hj : j < l.length := by
          have := (List.getElem?_eq_some_iff.1 hv).1
          rw [List.length_map, hlen] at this
          rw [hb.len]
          omega
        rw [add_plain, hc j (by rw [← hb.len]; exact hj)]
        have hj2 : j < 64 - i := by
          have := (List.getElem?_eq_some_iff.1 hv).1
          rw [List.length_map, hlen] at this
          omega
        rw [List.getElem?_map, List.getElem?_take_of_lt hj2, nums, List.getElem?_map, List.getElem?_eq_getElem hj] at hv
        rw [nth_eq l j hj]
        exact hv)
      (fun j hj => by
        rw [List.length_map, hlen] at hj
        have hlt : 8 + i + j < (msgL m ex).toArray.size := by have := h.sizeOk; omega
        rw [h.blk.cell, Array.getElem?_eq_getElem hlt]
        rfl)
      (fun j hj => h.blk.frozen _) (by
        intro v hv
        obtain ⟨x, _, rfl⟩ := List.mem_map.1 hv
        rfl)
    rw [this, List.length_map, hlen]
    rfl

theorem grown_undrew {w w' : World} {row : Option Nat} (h : w.drew.grownBy w' row) : w.grownBy w' row := ⟨h.os, h.tape, h.output, h.size, h.block⟩
set_option maxRecDepth 100000 in
theorem hold_any (w : World) (g : Nat) (t : TypeId) (ex : List Value) (m : Msg) (h : MsgAt w g t ex m) (B nl c : Nat) (A : Option Addr) (l : List UInt8) (hb : Byt w B A nl c l) (hn : m.n ≤ 4611686018427387904) :
    Calls Tryd.prog 44 #[.pointer (some ⟨g, 0, none⟩), .slice A nl c] w fun e w' => e = .returned (.int .i64 ((min nl (64 - m.n % 64) : Nat) : Int)) ∧
      MsgAt w' g t ex ⟨m.st, putAll m.rest (m.n % 64) ((nums l).take (64 - m.n % 64)), m.n + min nl (64 - m.n % 64)⟩ ∧ w.grownBy w' (some g) := by
  have hc72 := h.size_
  have hd : MsgAt w.drew g t ex m := ⟨h.blk, h.hs, h.hr, h.sw, h.rb⟩
  have hcp := run_copy_msg hd hb.drew (m.n % 64) (by omega) 3
  have hput := MsgAt.put ((nums l).take (64 - m.n % 64)) w.drew m (m.n % 64) hd (bytes_take _ _ (nums_bytes l)) (by rw [List.length_take]; omega)
  have f72 := hput.1.blk.frozen 72
  have c72 := hput.1.size_
  simp only at c72
  have hres := hput.1.setn (m.n + min nl (64 - m.n % 64))
  have hgr := hput.2
  simp only at hres
  obtain ⟨st, rest, N⟩ := m
  simp only at hc72 hcp f72 c72 hres hn hgr ⊢
  obtain ⟨r, hr⟩ : ∃ r, N % 64 = r := ⟨_, rfl⟩
  have hr64 : r < 64 := by omega
  have E0 : (N : Int) % 64 = (r : Int) := by omega
  rw [hr] at hcp f72 c72 hres hgr ⊢
  obtain ⟨K, hK⟩ : ∃ K, min nl (64 - r) = K := ⟨_, rfl⟩
  have hK64 : K ≤ 64 := by omega
  rw [hK] at hcp hres ⊢
  obtain ⟨W1, hW1⟩ : ∃ W1, w.drew.setCells g (8 + r) (((nums l).take (64 - r)).map fun x : Nat => Value.int .u8 (x : Int)) = W1 := ⟨_, rfl⟩
  rw [hW1] at hcp f72 c72 hres hgr
  have E1 : IntKind.i64.wrap ((N : Int) + (K : Int)) = ((N + K : Nat) : Int) := by rw [IntWalk.i64_in _ (by omega)]; omega
  have Hres := Lib.hid hres
  have Hgr := Lib.hid hgr
  have i0 : (0 : Int) ≤ r := by omega
  have i1 : (r : Int) ≤ 64 := by omega
  have c72d : w.drew.cell? ⟨g, 72, none⟩ = some (.int .i64 (N : Int)) := hc72
  clear h hd hput hb hr hK hW1 hres hgr
  go_enter Tryd.func44, Tryd.ntmps44
  go_upto_region 1 with fail
  go_region
  go_wp2
  go_ret
  exact ⟨rfl, Hres.out, grown_trans (grown_undrew Hgr.out) (grown_set W1 g 72 _)⟩
end Go.Proofs.YtpgjnmakpghamaaDoor

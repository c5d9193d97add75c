/- What of a message is kept in memory; begun, room, hold. -/
import Derived.Test.YtpgjnmakpghamaaDoorDgMixed
import Derived.Laws.IdiomCopy
namespace Go.Proofs.YtpgjnmakpghamaaDoor
open Go.RowKit
set_option linter.unusedVariables false

structure Msg where
  st : List Nat
  rest : List Nat
  n : Nat
/-- A byte more. -/
def absorb (m : Msg) (c : Nat) : Msg :=
  if (m.n + 1) % 64 = 0 then ⟨mixedN m.st (m.rest.set (m.n % 64) c) K0, m.rest.set (m.n % 64) c, m.n + 1⟩ else ⟨m.st, m.rest.set (m.n % 64) c, m.n + 1⟩
def absorbs (m : Msg) (l : List Nat) : Msg := l.foldl absorb m
/-- The bytes of l lie in rest from i on. -/
def putAll : List Nat → Nat → List Nat → List Nat
  | rest, _, [] => rest
  | rest, i, c :: r => putAll (rest.set i c) (i + 1) r
theorem putAll_length : ∀ (l rest : List Nat) (i : Nat), (putAll rest i l).length = rest.length
  | [], _, _ => rfl
  | c :: r, rest, i => by rw [putAll, putAll_length r, List.length_set]
/-- All its numbers are bytes. -/
def Bytes (l : List Nat) : Prop := ∀ i, l.getD i 0 < 256
theorem Bytes.set {l : List Nat} (h : Bytes l) (i x : Nat) (hx : x < 256) : Bytes (l.set i x) := fun j => by
  have := h j
  rw [List.getD] at this ⊢
  rw [List.getElem?_set]
  split
  · split
    · exact hx
    · exact (by omega : (0 : Nat) < 256)
  · exact this
theorem Bytes.cons {c : Nat} {r : List Nat} (h : Bytes (c :: r)) : c < 256 ∧ Bytes r := ⟨h 0, fun i => h (i + 1)⟩
theorem putAll_bytes : ∀ (l rest : List Nat) (i : Nat), Bytes rest → Bytes l → Bytes (putAll rest i l)
  | [], _, _, h, _ => h
  | c :: r, rest, i, h, hl => putAll_bytes r _ _ (h.set i c hl.cons.1) hl.cons.2
/-- Less than a block is taken in: no state changes. -/
theorem absorbs_hold : ∀ (l : List Nat) (m : Msg), m.n % 64 + l.length < 64 → absorbs m l = ⟨m.st, putAll m.rest (m.n % 64) l, m.n + l.length⟩
  | [], m, _ => rfl
  | c :: r, m, h => by
    simp only [List.length_cons] at h
    have h1 : ¬ (m.n + 1) % 64 = 0 := by omega
    have e : absorb m c = ⟨m.st, m.rest.set (m.n % 64) c, m.n + 1⟩ := by rw [absorb, if_neg h1]
    show absorbs (absorb m c) r = _
    rw [e, absorbs_hold r _ (by show (m.n + 1) % 64 + r.length < 64; omega)]
    show Msg.mk m.st (putAll (m.rest.set (m.n % 64) c) ((m.n + 1) % 64) r) (m.n + 1 + r.length) = _
    rw [show (m.n + 1) % 64 = m.n % 64 + 1 by omega, putAll, List.length_cons, show m.n + 1 + r.length = m.n + (r.length + 1) by omega]
/-- Just a block is filled. -/
theorem absorbs_fill : ∀ (l : List Nat) (m : Msg), m.n % 64 + l.length = 64 → absorbs m l = ⟨mixedN m.st (putAll m.rest (m.n % 64) l) K0, putAll m.rest (m.n % 64) l, m.n + l.length⟩
  | [], m, h => by simp only [List.length_nil] at h; omega
  | c :: r, m, h => by
    simp only [List.length_cons] at h
    show absorbs (absorb m c) r = _
    by_cases h1 : (m.n + 1) % 64 = 0
    · have hr : r = [] := List.eq_nil_of_length_eq_zero (by omega)
      subst hr
      rw [absorb, if_pos h1]
      rfl
    · have e : absorb m c = ⟨m.st, m.rest.set (m.n % 64) c, m.n + 1⟩ := by rw [absorb, if_neg h1]
      rw [e, absorbs_fill r _ (by show (m.n + 1) % 64 + r.length = 64; omega)]
      show Msg.mk (mixedN m.st (putAll (m.rest.set (m.n % 64) c) ((m.n + 1) % 64) r) K0) (putAll (m.rest.set (m.n % 64) c) ((m.n + 1) % 64) r) (m.n + 1 + r.length) = _
      rw [show (m.n + 1) % 64 = m.n % 64 + 1 by omega, putAll, List.length_cons, show m.n + 1 + r.length = m.n + (r.length + 1) by omega]
theorem absorbs_append (m : Msg) (l r : List Nat) : absorbs m (l ++ r) = absorbs (absorbs m l) r := List.foldl_append

/-- The cells of a message, and what follows them. -/
def msgL (m : Msg) (ex : List Value) : List Value := m.st.map (fun x : Nat => Value.int .u32 (x : Int)) ++ (m.rest.map (fun x : Nat => Value.int .u8 (x : Int)) ++ (Value.int .i64 (m.n : Int) :: ex))
structure MsgAt (w : World) (g : Nat) (t : TypeId) (ex : List Value) (m : Msg) : Prop where
  blk : BlkIs w g t (msgL m ex).toArray
  hs : m.st.length = 8
  hr : m.rest.length = 64
  sw : Words m.st
  rb : Bytes m.rest
theorem MsgAt.below {w w' : World} {g : Nat} {t : TypeId} {ex : List Value} {m : Msg} (h : MsgAt w g t ex m) {B : Nat} (hb : Below B w w') (hlt : g < B) : MsgAt w' g t ex m := ⟨h.blk.below hb hlt, h.hs, h.hr, h.sw, h.rb⟩
theorem MsgAt.here {w w' : World} {g : Nat} {t : TypeId} {ex : List Value} {m : Msg} (h : MsgAt w g t ex m) (hb : Below w.heap.size w w') : MsgAt w' g t ex m := h.below hb h.blk.lt
theorem MsgAt.size_ {w : World} {g : Nat} {t : TypeId} {ex : List Value} {m : Msg} (h : MsgAt w g t ex m) : w.cell? ⟨g, 72, none⟩ = some (.int .i64 (m.n : Int)) := by
  rw [h.blk.cell, List.getElem?_toArray, msgL, List.getElem?_append_right (by simp [h.hs]), List.getElem?_append_right (by simp [h.hs, h.hr])]
  simp [h.hs, h.hr]
theorem MsgAt.range_st {w : World} {g : Nat} {t : TypeId} {ex : List Value} {m : Msg} (h : MsgAt w g t ex m) : w.rangeAt g 0 (u32s m.st).toList := fun j v hv => by
  rw [Nat.zero_add, h.blk.cell, List.getElem?_toArray, msgL]
  have hv' : (m.st.map (fun x : Nat => Value.int .u32 (x : Int)))[j]? = some v := by simpa [u32s] using hv
  rw [List.getElem?_append_left (List.getElem?_eq_some_iff.1 hv').1]
  exact hv'
theorem MsgAt.range_rest {w : World} {g : Nat} {t : TypeId} {ex : List Value} {m : Msg} (h : MsgAt w g t ex m) : w.rangeAt g 8 (u8s m.rest).toList := fun j v hv => by
  rw [h.blk.cell, List.getElem?_toArray, msgL, List.getElem?_append_right (by simp [h.hs])]
  have hv' : (m.rest.map (fun x : Nat => Value.int .u8 (x : Int)))[j]? = some v := by simpa [u8s] using hv
  have hj := (List.getElem?_eq_some_iff.1 hv').1
  simp only [List.length_map, h.hs, Nat.add_sub_cancel_left]
  rw [List.getElem?_append_left hj]
  exact hv'
theorem MsgAt.sizeOk {w : World} {g : Nat} {t : TypeId} {ex : List Value} {m : Msg} (h : MsgAt w g t ex m) : 73 ≤ (msgL m ex).toArray.size := by simp [msgL, h.hs, h.hr]; omega

theorem room_any (w : World) (g : Nat) (n : Nat) (hn : w.cell? ⟨g, 72, none⟩ = some (.int .i64 (n : Int))) :
    Calls Tryd.prog 43 #[.pointer (some ⟨g, 0, none⟩)] w fun e w' => e = .returned (.int .i64 ((64 - n % 64 : Nat) : Int)) ∧ w = w' := by
  have e1 : (64 : Int) - (n : Int) % 64 = ((64 - n % 64 : Nat) : Int) := by omega
  go_enter Tryd.func43, Tryd.ntmps43
  go_wp2
  go_ret
  exact ⟨rfl, rfl⟩
end Go.Proofs.YtpgjnmakpghamaaDoor

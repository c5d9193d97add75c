/- Package table: what makes iterators. -/
import Derived.Test.YtekcphpeaoaaaaaTbPair
namespace Go.Proofs.Ytekcphpeaoaaaaa
open Go.RowKit
set_option linter.unusedVariables false

/-! ### The makers of iterators -/
theorem while_any (w : World) (pb fm : Nat) (caps : Array Value) :
    Calls Try.prog 60 #[ptrV pb, .func (.func fm) #[] caps] w fun e w' => e = .returned (.func (.func 66) #[] #[.pointer (some ⟨w.heap.size, 0, none⟩), .pointer (some ⟨w.heap.size + 1, 0, none⟩)]) ∧
      w' = (w.alloc (.cells #[ptrV pb] 74)).alloc (.cells #[.func (.func fm) #[] caps] 82) := by
  have hmf : ∀ (fn : Fn) (first cap : Array Value) (w : World), (Instr.makeFunc fn first cap).run Try.prog w = .ok (.func fn first cap) w := fun _ _ _ _ => rfl
  unfold ptrV
  go_enter Try.func60, Try.ntmps60
  go_wp2
  go_ret
  exact ⟨rfl, rfl⟩
theorem asc_any (w : World) (b : Nat) :
    Calls Try.prog 61 #[ptrV b] w fun e w' => e = .returned (.bool true) ∧ w = w' := by
  unfold ptrV
  go_enter Try.func61, Try.ntmps61
  go_wp2
  go_ret
  exact ⟨rfl, rfl⟩
set_option maxRecDepth 100000 in
theorem below1_any (w : World) (b bk : Nat) (k x key : Str) (n : Int) (pl pr : Value) (h : NodeAt w b k x n pl pr) (hk : w.cell? ⟨bk, 0, none⟩ = some (.string (S key))) :
    Calls Try.prog 62 #[ptrV b, .pointer (some ⟨bk, 0, none⟩)] w fun e w' => e = .returned (.bool (lt k key)) ∧ ∃ q, w' = w.drewN q := by
  have c0 := h.c0
  have hlt := S_lt k key
  generalize lt k key = lv at *
  clear h
  unfold ptrV
  go_enter Try.func62, Try.ntmps62
  go_wp2_with fail
  go_quiet (fail)
  go_wp2
  go_ret
  exact ⟨rfl, _, rfl⟩
theorem asc_meant (X : Nat → Prop) (W0 : World) : Meant X W0 61 #[] fun _ => true := fun W b k x n pl pr _ _ => (asc_any W b).mono fun _ _ ⟨he, hw⟩ => ⟨he, 0, hw.symm⟩
theorem below_meant (X : Nat → Prop) (W0 : World) (bk : Nat) (key : Str) (hx : X bk) (hb : BlkIs W0 bk 9 #[.string (S key)]) : Meant X W0 62 #[.pointer (some ⟨bk, 0, none⟩)] fun k => lt k key := fun W b k x n pl pr hf hn =>
  below1_any W b bk k x key n pl pr hn (by rw [BlkIs.cell (show BlkIs W bk _ _ from (hf bk hx).trans hb)]; rfl)

set_option maxRecDepth 100000 in
theorem ascending_any (w : World) (pb : Nat) :
    Calls Try.prog 47 #[ptrV pb] w fun e w' => e = .returned (.func (.func 66) #[] #[.pointer (some ⟨w.heap.size, 0, none⟩), .pointer (some ⟨w.heap.size + 1, 0, none⟩)]) ∧
      w' = (w.alloc (.cells #[ptrV pb] 74)).alloc (.cells #[.func (.func 61) #[] #[]] 82) := by
  have X := Lib.hid (while_any w pb 61 #[])
  unfold ptrV at *
  go_enter Try.func47, Try.ntmps47
  go_wp2_with fail
  refine X.out.mono ?_
  rintro e w1 ⟨rfl, rfl⟩
  go_wp2
  go_ret
  exact ⟨rfl, rfl⟩
set_option maxRecDepth 100000 in
theorem below_any (w : World) (pb : Nat) (key : Str) :
    Calls Try.prog 50 #[ptrV pb, .string (S key)] w fun e w' => e = .returned (.func (.func 66) #[] #[.pointer (some ⟨w.heap.size + 1, 0, none⟩), .pointer (some ⟨w.heap.size + 1 + 1, 0, none⟩)]) ∧
      w' = ((w.alloc (.cells #[.string (S key)] 9)).alloc (.cells #[ptrV pb] 74)).alloc (.cells #[.func (.func 62) #[] #[.pointer (some ⟨w.heap.size, 0, none⟩)]] 82) := by
  have hmf : ∀ (fn : Fn) (first cap : Array Value) (w : World), (Instr.makeFunc fn first cap).run Try.prog w = .ok (.func fn first cap) w := fun _ _ _ _ => rfl
  have X := while_any (w.alloc (.cells #[.string (S key)] 9)) pb 62 #[.pointer (some ⟨w.heap.size, 0, none⟩)]
  rw [World.size_alloc] at X
  have X := Lib.hid X
  unfold ptrV at *
  go_enter Try.func50, Try.ntmps50
  go_wp2_with fail
  refine X.out.mono ?_
  rintro e w1 ⟨rfl, rfl⟩
  go_wp2
  go_ret
  exact ⟨rfl, rfl⟩
end Go.Proofs.Ytekcphpeaoaaaaa

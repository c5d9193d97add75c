/- The law's frame of "a". -/
import Derived.Test.YtiikjdjpodmpcaaGreatWlStr
namespace Go.Proofs.YtiikjdjpodmpcaaGreat
open Go.RowKit Go.Maps
set_option linter.unusedVariables false

/-! ### append of bytes -/
theorem wp_bytes_append {w : World} {o : Oper} {a : Act} {K : Act → World → Prop} {Q : Exit → Act → World → Prop} (s x : Operand)
    (ho : o.op = .call { callee := .builtin .append, args := #[s, x], argTypes := #[22, 22] })
    (B : Nat) (A : Option Addr) (n c : Nat) (l : List UInt8) (hs : a.eval s = .slice A n c) (hown : Own w B A n c l)
    (B' : Nat) (A' : Option Addr) (m c' : Nat) (l' : List UInt8) (hx : a.eval x = .slice A' m c') (hr : Byt w B' A' m c' l') (hb : n + m ≤ 140737488355328) (hB : B ≤ w.heap.size)
    (h : ∀ A2 c2 w', Own w' B A2 (n + m) c2 (l ++ l') → w.grownBy w' (Value.slice A n c).ownBlock → K (a.put o.dst (.slice A2 (n + m) c2)) w') :
    o.wp Tryz.prog a w K Q := by
  obtain ⟨A2, c2, w', hr, h2, h3, h5⟩ := byte_append w o.type B A n c l hown B' A' m c' l' hr hb hB
  unfold Oper.wp execOp
  simp only [ho, resolve, invoke, builtin, Sem.run_bind, Sem.run_pure, Result.andThen_ok, List.map_toArray, List.map_cons, List.map_nil, hs, hx, hr]
  exact h A2 c2 w' h2 h3
def fA : Array Value := #[Value.int .u8 0, Value.int .u8 0, Value.int .u8 0, Value.int .u8 1]
def fB : Array Value := #[Value.int .u8 0, Value.int .u8 0, Value.int .u8 0, Value.int .u8 1, Value.int .u8 97]
theorem frame_own (w : World) (C : Nat) (h1 : 5 ≤ C) (h2 : C ≤ maxLen) :
    Own ((w.alloc (.cells fA 5)).alloc (.cells (fB ++ Builtin.zeroCells #[Value.int .u8 0] (C - 5)) 5)).drew w.heap.size (some ⟨w.heap.size + 1, 0, none⟩) 5 C [0, 0, 0, 1, 97] ∧
    Nx w ((w.alloc (.cells fA 5)).alloc (.cells (fB ++ Builtin.zeroCells #[Value.int .u8 0] (C - 5)) 5)).drew := by
  have n1 : Nx w (w.alloc (.cells fA 5)) := (Below.refl _ w).alloc (Nat.le_refl _) _
  have hs : (w.alloc (.cells fA 5)).heap.size = w.heap.size + 1 := by simp
  refine ⟨⟨rfl, .inr ⟨w.heap.size + 1, C, fB ++ Builtin.zeroCells #[Value.int .u8 0] (C - 5), rfl, by omega, ?_, h1, h2, ?_, ?_⟩⟩, ?_⟩
  · have := heap_alloc_new (w.alloc (.cells fA 5)) (.cells (fB ++ Builtin.zeroCells #[Value.int .u8 0] (C - 5)) 5)
    rw [hs] at this
    exact this
  · rw [Array.size_append, size_zeroCells]
    show 5 + (C - 5) * 1 = C * 1
    omega
  · rw [Array.toList_append]
    rfl
  · exact Nx.drewN (n1.trans ((Below.refl _ _).alloc (Nat.le_refl _) _)) 1
def xAt : Nat → Nat := fun k => [1, 1, 1, 1, 2, 99].getD k 0
def yAt : Nat → Nat := fun k => [0, 1, 2, 3, 5, 104].getD k 0
theorem cap54 : Builtin.nextslicecap 5 4 = 8 := by decide +kernel
set_option maxRecDepth 100000 in
set_option maxHeartbeats 2000000 in
theorem lframe_a (w : World) :
    Calls Tryz.prog 9 #[.string ⟨#[97]⟩] w fun e w' => ∃ g c, e = .returned (.slice (some ⟨g, 0, none⟩) 9 c) ∧ Own w' w.heap.size (some ⟨g, 0, none⟩) 9 c [0, 0, 0, 1, 97, 0, 104, 0, 99] ∧ Nx w w' := by
  have c54 := cap54
  go_enter Tryz.func9, Tryz.ntmps9
  go_wp2_with fail
  rename_i a0 h0 K0 Q0
  have hge := grownCap_ge w 5 4 5
  have hle := grownCap_le_maxLen w 5 4 5 (by decide)
  unfold grownCap at hge hle
  generalize (Question.appendCap 5 4 5).cut (w.tape w.drawn (Question.appendCap 5 4 5)) = C at *
  have HF := frame_own w C hge hle
  unfold fA fB at HF
  generalize ((w.alloc (.cells #[Value.int .u8 0, Value.int .u8 0, Value.int .u8 0, Value.int .u8 1] 5)).alloc (.cells (#[Value.int .u8 0, Value.int .u8 0, Value.int .u8 0, Value.int .u8 1, Value.int .u8 97] ++ Builtin.zeroCells #[Value.int .u8 0] (C - 5)) 5)).drew = W at *
  obtain ⟨hO, hN⟩ := HF
  have HO := Lib.hid hO
  have HN := Lib.hid hN
  have hx : ∀ j, j < 5 → W.cell? ⟨w.heap.size + 1, j, none⟩ = some (.int .u8 (nth [0, 0, 0, 1, 97] j)) := fun j hj => by
    have := World.ownsRow.cells (w := W) hO (g := w.heap.size + 1) rfl j (.int .u8 (nth [0, 0, 0, 1, 97] j)) (bvs_get _ j (by simpa using hj))
    rwa [add_plain, Nat.zero_add] at this
  have d0 : W.cell? ⟨w.heap.size + 1, 0, none⟩ = some (.int .u8 0) := hx 0 (by decide)
  have d1 : W.cell? ⟨w.heap.size + 1, 1, none⟩ = some (.int .u8 0) := hx 1 (by decide)
  have d2 : W.cell? ⟨w.heap.size + 1, 2, none⟩ = some (.int .u8 0) := hx 2 (by decide)
  have d3 : W.cell? ⟨w.heap.size + 1, 3, none⟩ = some (.int .u8 1) := hx 3 (by decide)
  have d4 : W.cell? ⟨w.heap.size + 1, 4, none⟩ = some (.int .u8 97) := hx 4 (by decide)
  clear hO hN hx
  go_loopw [4, 5, 6] (fun x y i wr => wr = W ∧ ((x = .int .u32 1 ∧ y = .int .u32 0 ∧ i = .int .i64 0) ∨ (x = .int .u32 1 ∧ y = .int .u32 1 ∧ i = .int .i64 1) ∨ (x = .int .u32 1 ∧ y = .int .u32 2 ∧ i = .int .i64 2) ∨ (x = .int .u32 1 ∧ y = .int .u32 3 ∧ i = .int .i64 3) ∨ (x = .int .u32 2 ∧ y = .int .u32 5 ∧ i = .int .i64 4) ∨ (x = .int .u32 99 ∧ y = .int .u32 104 ∧ i = .int .i64 5))) (fun _ _ i _ => 5 - (intOf i).toNat)
  case atStart => exact ⟨rfl, .inl ⟨rfl, rfl, rfl⟩⟩
  case round =>
    obtain ⟨rfl, hk⟩ := hrel
    rcases hk with ⟨rfl, rfl, rfl⟩ | ⟨rfl, rfl, rfl⟩ | ⟨rfl, rfl, rfl⟩ | ⟨rfl, rfl, rfl⟩ | ⟨rfl, rfl, rfl⟩ | ⟨rfl, rfl, rfl⟩
    · go_wp2
      go_roundw
      case rel => exact ⟨trivial, .inr (.inl ⟨rfl, rfl, rfl⟩)⟩
      case measure => decide
    · go_wp2
      go_roundw
      case rel => exact ⟨trivial, .inr (.inr (.inl ⟨rfl, rfl, rfl⟩))⟩
      case measure => decide
    · go_wp2
      go_roundw
      case rel => exact ⟨trivial, .inr (.inr (.inr (.inl ⟨rfl, rfl, rfl⟩)))⟩
      case measure => decide
    · go_wp2
      go_roundw
      case rel => exact ⟨trivial, .inr (.inr (.inr (.inr (.inl ⟨rfl, rfl, rfl⟩))))⟩
      case measure => decide
    · go_wp2
      go_roundw
      case rel => exact ⟨trivial, .inr (.inr (.inr (.inr (.inr (⟨rfl, rfl, rfl⟩)))))⟩
      case measure => decide
    · go_wp2_with (at_builtin; refine wpList_byte_append rfl (.tmp 36) (.tmp 47) rfl w.heap.size (some ⟨w.heap.size + 1, 0, none⟩) 5 C [0, 0, 0, 1, 97] rfl (HO.out.alloc _) (wr.heap.size + 1) (some ⟨wr.heap.size, 0, none⟩) 4 4 [0, 104, 0, 99] rfl (Byt.lit wr _ [0, 104, 0, 99] rfl (by decide)) (by decide) (by have := HN.out.size; simp; omega) ?_; intro A3 c3 w3 hown3 hgr3 hat3)
      have hnx3 : Nx w w3 := (HN.out.trans ((Below.refl _ wr).alloc (Nat.le_refl _) _)).grown hgr3 (by have := HN.out.size; simp; omega) fun k hk => (World.ownsRow.lt HO.out k hk).1
      obtain ⟨g, rfl, -, -⟩ := Own.block hown3 (by decide)
      have R := Lib.hid (And.intro hown3 hnx3)
      clear hown3 hnx3 hgr3 hat3
      go_wp2
      go_ret
      exact ⟨g, c3, rfl, R.out.1, R.out.2⟩
end Go.Proofs.YtiikjdjpodmpcaaGreat

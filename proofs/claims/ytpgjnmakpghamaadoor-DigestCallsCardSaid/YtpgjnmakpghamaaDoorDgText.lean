/- The text of a digest. -/
import Derived.Test.YtpgjnmakpghamaaDoorDgBegun
namespace Go.Proofs.YtpgjnmakpghamaaDoor
open Go.RowKit
set_option linter.unusedVariables false

def hexN (x : Nat) : Nat := if x < 10 then 48 + x else 87 + x
/-- The text of these bytes. -/
def textU (d : List Nat) : List UInt8 := d.flatMap fun c => [UInt8.ofNat (hexN (c / 16)), UInt8.ofNat (hexN (c % 16))]
theorem textU_snoc (d : List Nat) (c : Nat) : textU (d ++ [c]) = textU d ++ [UInt8.ofNat (hexN (c / 16)), UInt8.ofNat (hexN (c % 16))] := by simp [textU]
theorem info32 : (Tryd.prog.info? 23).map (·.size) = some 32 := by kernel_rfl
theorem infoByte : (Tryd.prog.info? 5).map (fun i => (i.zero, i.size, i.bytes)) = some (some (.int .u8 0), 1, 1) := by kernel_rfl

/-- make([]byte, L, C). -/
theorem run_make_bytes (w : World) (L C : Nat) (h : L ≤ C) (hC : C ≤ 1099511627776) :
    (Instr.makeSlice 33 (.int .i64 (L : Int)) (.int .i64 (C : Int))).run Tryd.prog w = .ok (.slice (some ⟨w.heap.size, 0, none⟩) L C) (w.alloc (.cells (madeCells #[.int .u8 0] C) 5)) ∧
    Own (w.alloc (.cells (madeCells #[.int .u8 0] C) 5)) w.heap.size (some ⟨w.heap.size, 0, none⟩) L C (List.replicate L 0) := by
  obtain ⟨i, hi, hz⟩ := Option.map_eq_some_iff.1 infoByte
  simp only [Prod.mk.injEq] at hz
  obtain ⟨hz, hs, hb⟩ := hz
  have hr := run_make (P := Tryd.prog) w 33 5 i (.int .u8 0) Tryd.underlying33 hi hz .i64 .i64 L C (by omega) (by omega) (by rw [hb]; omega) (by omega)
  simp only [Int.toNat_natCast, hs, Nat.mul_one] at hr
  refine ⟨hr, ?_, .inr ⟨w.heap.size, C, madeCells #[.int .u8 0] C, rfl, Nat.le_refl _, heap_alloc_new w _, h, by unfold maxLen; omega, by rw [size_madeCells, Nat.mul_one], ?_⟩⟩
  · simp [bvs_length]
  · rw [toList_madeCells_one, Nat.mul_one, List.take_replicate, Nat.min_eq_left h]
    simp [bvs]
theorem wp_byte_append {w : World} {o : Oper} {a : Act} {K : Act → World → Prop} {Q : Exit → Act → World → Prop} (s x : Operand)
    (ho : o.op = .call { callee := .builtin .append, args := #[s, x], argTypes := #[33, 33] })
    (B : Nat) (A : Option Addr) (n c : Nat) (l : List UInt8) (hs : a.eval s = .slice A n c) (hown : Own w B A n c l)
    (B' : Nat) (A' : Option Addr) (m c' : Nat) (l' : List UInt8) (hx : a.eval x = .slice A' m c') (hr : Byt w B' A' m c' l') (hb : n + m ≤ 140737488355328) (hB : B ≤ w.heap.size)
    (h : ∀ A2 c2 w', Own w' B A2 (n + m) c2 (l ++ l') → w.grownBy w' (Value.slice A n c).ownBlock → K (a.put o.dst (.slice A2 (n + m) c2)) w') :
    o.wp Tryd.prog a w K Q := by
  obtain ⟨A2, c2, w', hr, h2, h3, h5⟩ := byte_append w o.type B A n c l hown B' A' m c' l' hr hb hB
  unfold Oper.wp execOp
  simp only [ho, resolve, invoke, builtin, Sem.run_bind, Sem.run_pure, Result.andThen_ok, List.map_toArray, List.map_cons, List.map_nil, hs, hx, hr]
  exact h A2 c2 w' h2 h3
theorem u8_shr4 (c : Nat) : (c : Int) / 16 = ((c / 16 : Nat) : Int) := by omega
theorem u8_and15 (c : Nat) (h : c < 256) : bits .and .u8 (c : Int) 15 = ((c % 16 : Nat) : Int) := by
  have h1 := u8_and_nat c 15 h (by omega)
  have e : c &&& 15 = c % 16 := Nat.and_two_pow_sub_one_eq_mod c 4
  rw [e] at h1
  exact h1
theorem run_index_hex (w : World) (x : Nat) (hx : x < 16) : (Instr.index 9 (.string ⟨#[48, 49, 50, 51, 52, 53, 54, 55, 56, 57, 97, 98, 99, 100, 101, 102]⟩) (.int .u8 (x : Int))).run Tryd.prog w = .ok (.int .u8 ((hexN x : Nat) : Int)) w := by
  have h : x = 0 ∨ x = 1 ∨ x = 2 ∨ x = 3 ∨ x = 4 ∨ x = 5 ∨ x = 6 ∨ x = 7 ∨ x = 8 ∨ x = 9 ∨ x = 10 ∨ x = 11 ∨ x = 12 ∨ x = 13 ∨ x = 14 ∨ x = 15 := by omega
  rcases h with rfl | rfl | rfl | rfl | rfl | rfl | rfl | rfl | rfl | rfl | rfl | rfl | rfl | rfl | rfl | rfl <;> rfl

theorem Own.alloc {w : World} {B n c : Nat} {A : Option Addr} {l : List UInt8} (h : Own w B A n c l) (o : Obj) : Own (w.alloc o) B A n c l := World.ownsRow.alloc h o
theorem Byt.lit (w : World) (cs : Array Value) (l : List UInt8) (h : cs.toList = bvs l) (hm : l.length ≤ maxLen) : Byt (w.alloc (.cells cs 5)) (w.heap.size + 1) (some ⟨w.heap.size, 0, none⟩) l.length l.length l := by
  have h1 := (Own.lit w cs l h hm).byt
  simpa using h1
theorem hexN_lt (x : Nat) (h : x < 16) : hexN x < 256 := by unfold hexN; split <;> omega
theorem hex_cells (x : Nat) (h : x < 256) : (#[Value.int .u8 ((hexN (x / 16) : Nat) : Int), Value.int .u8 ((hexN (x % 16) : Nat) : Int)] : Array Value).toList = bvs [UInt8.ofNat (hexN (x / 16)), UInt8.ofNat (hexN (x % 16))] := by
  have h1 := hexN_lt (x / 16) (by omega)
  have h2 := hexN_lt (x % 16) (by omega)
  have e1 : (UInt8.ofNat (hexN (x / 16))).toNat = hexN (x / 16) := by rw [UInt8.toNat_ofNat']; omega
  have e2 : (UInt8.ofNat (hexN (x % 16))).toNat = hexN (x % 16) := by rw [UInt8.toNat_ofNat']; omega
  simp only [bvs, List.map_cons, List.map_nil, e1, e2]

set_option maxRecDepth 100000 in
theorem text_any (w : World) (d : List Nat) (hd : d.length = 32) (hb : Bytes d) :
    Calls Tryd.prog 20 #[.agg (u8s d)] w fun e w' => e = .returned (.string ⟨(textU d).toArray⟩) ∧ Below w.heap.size w w' := by
  have Hd := Lib.hid hd
  have Hb := Lib.hid hb
  have Hsz : Hid ((u8s d).size = 32) := by unfold Hid; rw [u8s_size, hd]
  have hmk := run_make_bytes (w.alloc (.cells (u8s d) 23)) 0 64 (by omega) (by omega)
  have hmk1 : (Instr.makeSlice 33 (.int .i64 0) (.int .i64 64)).run Tryd.prog (w.alloc (.cells (u8s d) 23)) = .ok (.slice (some ⟨(w.alloc (.cells (u8s d) 23)).heap.size, 0, none⟩) 0 64) ((w.alloc (.cells (u8s d) 23)).alloc (.cells (madeCells #[.int .u8 0] 64) 5)) := hmk.1
  have hal : Below w.heap.size w (w.alloc (.cells (u8s d) 23)) := (Below.refl _ _).alloc (Nat.le_refl _) _
  have Ho := Lib.hid hmk.2
  have Hal := Lib.hid hal
  have Hal2 := Lib.hid (hal.trans (((Below.refl _ _).alloc (Nat.le_refl _) (.cells (madeCells #[.int .u8 0] 64) 5)).mono hal.size))
  clear hd hb hmk hal
  go_enter Tryd.func20, Tryd.ntmps20
  go_wp2_with (refine wpList_load_row rfl 23 (.tmp 1) rfl w.heap.size rfl 23 (u8s d) (0, 0) _ ((BlkIs.new w _ _).here ((Below.refl _ _).alloc (Nat.le_refl _) _)) Tryd.underlying23 rfl (by rw [info32, Hsz.out]) ?_)
  generalize hW : (w.alloc (.cells (u8s d) 23)).alloc (.cells (madeCells #[.int .u8 0] 64) 5) = W0 at *
  have hst : Own W0 w.heap.size (some ⟨w.heap.size + 1, 0, none⟩) 0 64 (textU (d.take 0)) := by
    have := Ho.out
    simpa [textU] using this.more (by simp)
  have Hst := Lib.hid hst
  clear hst hW hmk1
  trace_state
  go_loopw [3, 8] (fun y x wr => ∃ (A : Option Addr) (n c i : Nat), y = .slice A n c ∧ x = .int .i64 i ∧ i ≤ 32 ∧ n = 2 * i ∧ Own wr w.heap.size A n c (textU (d.take i)) ∧ Below w.heap.size w wr) (fun _ x _ => 32 - (intOf x).toNat)
  case atStart => exact ⟨_, 0, 64, 0, rfl, rfl, by omega, rfl, Hst.out, Hal2.out⟩
  case round =>
    obtain ⟨A, n, c, i, rfl, rfl, hi, rfl, ho, hbel⟩ := hrel
    have Ho := Lib.hid ho
    have Hbel := Lib.hid hbel
    clear ho hbel Hst Hal2
    by_cases hlt : i < 32
    · have hix := fun W => run_index_arr W 23 5 32 .u8 Tryd.underlying23 Tryd.underlying5 (by kernel_rfl) (u8s d) i _ hlt (u8s_get d i (by rw [Hd.out]; exact hlt))
      have hc := Hb.out i
      have htake : d.take (i + 1) = d.take i ++ [d.getD i 0] := by
        rw [List.take_succ_eq_append_getElem (by rw [Hd.out]; exact hlt), List.getD, List.getElem?_eq_getElem (by rw [Hd.out]; exact hlt)]
        rfl
      generalize d.getD i 0 = x at *
      have hx1 : ∀ W, (Instr.index 9 (.string ⟨#[48, 49, 50, 51, 52, 53, 54, 55, 56, 57, 97, 98, 99, 100, 101, 102]⟩) (.int .u8 ((x : Int) / 16))).run Tryd.prog W = .ok (.int .u8 ((hexN (x / 16) : Nat) : Int)) W := fun W => by
        rw [u8_shr4]
        exact run_index_hex W (x / 16) (by omega)
      have hx2 : ∀ W, (Instr.index 9 (.string ⟨#[48, 49, 50, 51, 52, 53, 54, 55, 56, 57, 97, 98, 99, 100, 101, 102]⟩) (.int .u8 (bits .and .u8 (x : Int) 15))).run Tryd.prog W = .ok (.int .u8 ((hexN (x % 16) : Nat) : Int)) W := fun W => by
        rw [u8_and15 x hc]
        exact run_index_hex W (x % 16) (by omega)
      have hsn := textU_snoc (d.take i) x
      rw [← htake] at hsn
      have Hsn := Lib.hid hsn
      have i1 : (i : Int) < 32 := by omega
      have i0 : (0 : Int) ≤ i := by omega
      clear htake hsn
      go_upto_region 5 with fail
      refine wp_region_held_drew (S := fun _ => True) (by kernel_rfl) trivial (fun _ => ?_)
      change wpAnyH _ _ _ _ _ 10 (Array.replicate 10 false) _ _
      refine wpAnyH_take (i := 0) (oi := { dst := some 11, op := Op.move (Operand.tmp 3), type := 33, pos := "text.go:16", after := #[], guard := none }) (v := ?v0) rfl (by kernel_rfl) (by kernel_rfl) (by kernel_rfl) (fun _ _ _ h => h) (Or.inl ⟨by rfl, ?hy0⟩) trivial ?rest0
      case hy0 =>
        intro W hSw
        go_simp
        try with_reducible rfl
      simp only [Act.put, List.setIfInBounds_toArray, List.set_cons_zero, List.set_cons_succ]
      refine wpAnyH_take (i := 1) (oi := { dst := some 12, op := Op.move (Operand.tmp 5), type := 5, pos := "text.go:16", after := #[], guard := none }) (v := ?v1) rfl (by kernel_rfl) (by kernel_rfl) (by kernel_rfl) (fun _ _ _ h => h) (Or.inl ⟨by rfl, ?hy1⟩) trivial ?rest1
      case hy1 =>
        intro W hSw
        go_simp
        try with_reducible rfl
      simp only [Act.put, List.setIfInBounds_toArray, List.set_cons_zero, List.set_cons_succ]
      refine wpAnyH_take (i := 2) (oi := { dst := some 13, op := Op.binOp BinOp.shr 5 (Operand.tmp 12) (Operand.const (Value.int IntKind.u64 4)) 50, type := 5, pos := "text.go:16", after := #[{ on := 1, ground := Ground.data }], guard := none }) (v := ?v2) rfl (by kernel_rfl) (by kernel_rfl) (by kernel_rfl) (fun _ _ _ h => h) (Or.inl ⟨by rfl, ?hy2⟩) trivial ?rest2
      case hy2 =>
        intro W hSw
        go_simp
        try with_reducible rfl
      simp only [Act.put, List.setIfInBounds_toArray, List.set_cons_zero, List.set_cons_succ]
      refine wpAnyH_take (i := 3) (oi := { dst := some 14, op := Op.index 9 (Operand.const (Value.string { data := #[48, 49, 50, 51, 52, 53, 54, 55, 56, 57, 97, 98, 99, 100, 101, 102] })) (Operand.tmp 13), type := 5, pos := "text.go:16", after := #[{ on := 2, ground := Ground.data }], guard := none }) (v := ?v3) rfl (by kernel_rfl) (by kernel_rfl) (by kernel_rfl) (fun _ _ _ h => h) (Or.inl ⟨by rfl, ?hy3⟩) trivial ?rest3
      case hy3 =>
        intro W hSw
        go_simp
        try with_reducible rfl
      simp only [Act.put, List.setIfInBounds_toArray, List.set_cons_zero, List.set_cons_succ]
      refine wpAnyH_take (i := 4) (oi := { dst := some 15, op := Op.move (Operand.tmp 5), type := 5, pos := "text.go:16", after := #[], guard := none }) (v := ?v4) rfl (by kernel_rfl) (by kernel_rfl) (by kernel_rfl) (fun _ _ _ h => h) (Or.inl ⟨by rfl, ?hy4⟩) trivial ?rest4
      case hy4 =>
        intro W hSw
        go_simp
        try with_reducible rfl
      simp only [Act.put, List.setIfInBounds_toArray, List.set_cons_zero, List.set_cons_succ]
      refine wpAnyH_take (i := 5) (oi := { dst := some 16, op := Op.binOp BinOp.and 5 (Operand.tmp 15) (Operand.const (Value.int IntKind.u8 15)) 5, type := 5, pos := "text.go:16", after := #[{ on := 4, ground := Ground.data }], guard := none }) (v := ?v5) rfl (by kernel_rfl) (by kernel_rfl) (by kernel_rfl) (fun _ _ _ h => h) (Or.inl ⟨by rfl, ?hy5⟩) trivial ?rest5
      case hy5 =>
        intro W hSw
        go_simp
        try with_reducible rfl
      simp only [Act.put, List.setIfInBounds_toArray, List.set_cons_zero, List.set_cons_succ]
      refine wpAnyH_take (i := 6) (oi := { dst := some 17, op := Op.index 9 (Operand.const (Value.string { data := #[48, 49, 50, 51, 52, 53, 54, 55, 56, 57, 97, 98, 99, 100, 101, 102] })) (Operand.tmp 16), type := 5, pos := "text.go:16", after := #[{ on := 5, ground := Ground.data }], guard := none }) (v := ?v6) rfl (by kernel_rfl) (by kernel_rfl) (by kernel_rfl) (fun _ _ _ h => h) (Or.inl ⟨by rfl, ?hy6⟩) trivial ?rest6
      case hy6 =>
        intro W hSw
        go_simp
        try with_reducible rfl
      simp only [Act.put, List.setIfInBounds_toArray, List.set_cons_zero, List.set_cons_succ]
      refine wpAnyH_ready (rs := [7]) (by kernel_rfl) (by simp) ?_
      refine AllReadyH.cons (o := { dst := some 18, op := Op.buildSlice 33 2 #[(0, Operand.tmp 14), (1, Operand.tmp 17)], type := 33, pos := "text.go:16", after := #[{ on := 3, ground := Ground.data }, { on := 6, ground := Ground.data }], guard := none }) rfl (fun K' hK => ?_) AllReadyH.nil
      go_simp
      refine hK.out _ _ trivial (fun _ => ?_)
      clear hK K'
      try simp only [Act.put, List.setIfInBounds_toArray, List.set_cons_zero, List.set_cons_succ]
      have hby := Byt.lit wr.drew #[.int .u8 ((hexN (x / 16) : Nat) : Int), .int .u8 ((hexN (x % 16) : Nat) : Int)] [UInt8.ofNat (hexN (x / 16)), UInt8.ofNat (hexN (x % 16))] (hex_cells x hc) (by simp [maxLen])
      have hoa : Own (wr.drew.alloc (.cells #[.int .u8 ((hexN (x / 16) : Nat) : Int), .int .u8 ((hexN (x % 16) : Nat) : Int)] 5)) w.heap.size A (2 * i) c (textU (d.take i)) := Own.alloc (w := wr.drew) Ho.out _
      have Hby := Lib.hid hby
      have Hoa := Lib.hid hoa
      clear hby hoa
      refine wpAnyH_ready (rs := [8]) (by kernel_rfl) (by simp) ?_
      refine AllReadyH.cons (o := { dst := some 19, op := Op.call { callee := Callee.builtin Builtin.append, args := #[Operand.tmp 11, Operand.tmp 18], argTypes := #[33, 33] }, type := 33, pos := "text.go:16", after := #[{ on := 0, ground := Ground.data }, { on := 7, ground := Ground.data }], guard := none }) rfl (fun K' hK => ?_) AllReadyH.nil
      rw [if_pos (by rfl)]
      refine wp_byte_append (.tmp 11) (.tmp 18) rfl w.heap.size A (2 * i) c (textU (d.take i)) rfl Hoa.out _ _ 2 2 _ rfl Hby.out (by omega) (by have := Hbel.out.size; simp; omega) ?_
      intro A2 c2 w2 ho2 hg2
      rw [← Hsn.out] at ho2
      have Ho2 := Lib.hid ho2
      have Hb2 := Lib.hid (((Hbel.out.drew).alloc (Hbel.out.drew).size _).grown hg2 ((Hbel.out.drew).alloc (Hbel.out.drew).size _).size fun k hk => (World.ownsRow.lt Hoa.out k hk).1)
      clear ho2 hg2
      refine hK.out _ _ trivial (fun _ => ?_)
      clear hK K'
      try simp only [Act.put, List.setIfInBounds_toArray, List.set_cons_zero, List.set_cons_succ]
      refine wpAnyH_take (i := 9) (oi := { dst := some 3, op := Op.assign (Operand.tmp 19), type := 33, pos := "text.go:16", after := #[{ on := 8, ground := Ground.data }, { on := 8, ground := Ground.chain }, { on := 0, ground := Ground.phase }, { on := 1, ground := Ground.phase }, { on := 2, ground := Ground.phase }, { on := 3, ground := Ground.phase }, { on := 4, ground := Ground.phase }, { on := 5, ground := Ground.phase }, { on := 6, ground := Ground.phase }, { on := 7, ground := Ground.phase }, { on := 8, ground := Ground.phase }], guard := none }) (v := ?v9) rfl (by kernel_rfl) (by kernel_rfl) (by kernel_rfl) (fun _ _ _ h => h) (Or.inl ⟨by rfl, ?hy9⟩) trivial ?rest9
      case hy9 =>
        intro W hSw
        go_simp
        try with_reducible rfl
      simp only [Act.put, List.setIfInBounds_toArray, List.set_cons_zero, List.set_cons_succ]
      refine wpAnyH_done (by kernel_rfl) ?_ _
      go_wp2
      go_roundw
      case rel => exact ⟨A2, 2 * i + 2, c2, i + 1, rfl, by go_num, by omega, by omega, Ho2.out, Hb2.out⟩
      case measure => simp [intOf]; omega
    · obtain rfl : i = 32 := by omega
      have hfin : d.take 32 = d := List.take_of_length_le (by rw [Hd.out]; exact Nat.le_refl _)
      rw [hfin] at Ho
      have hcv := run_string_of_bytes Ho.out.byt
      clear hfin
      go_wp2
      go_ret
      exact ⟨rfl, Hbel.out⟩
end Go.Proofs.YtpgjnmakpghamaaDoor

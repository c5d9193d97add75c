/- The reference: Text. -/
import Derived.Test.YtpgjnmakpghamaaDoorRfParse
import Derived.Test.YtpgjnmakpghamaaDoorDgParts
namespace Go.Proofs.YtpgjnmakpghamaaDoor
open Go.RowKit
set_option linter.unusedVariables false

set_option maxRecDepth 100000 in
theorem rtext_any (w : World) (d : List Nat) (hd : d.length = 32) (hb : Bytes d) :
    Calls Tryd.prog 21 #[.agg (u8s d)] w fun e w' => e = .returned (.string ⟨(textU d).toArray⟩) ∧ Below w.heap.size w w' := by
  have Hd := Lib.hid hd
  have Hb := Lib.hid hb
  have hal : Below w.heap.size w (w.alloc (.cells (u8s d) 23)) := (Below.refl _ _).alloc (Nat.le_refl _) _
  have Hal := Lib.hid hal
  have Hx := Lib.hid (BlkIs.new w 23 (u8s d))
  clear hd hb hal
  go_enter Tryd.func21, Tryd.ntmps21
  go_wp2
  generalize w.alloc (.cells (u8s d) 23) = W0 at *
  go_loopw [3, 4] (fun y x wr => ∃ (A : Option Addr) (n c i : Nat), y = .slice A n c ∧ x = .int .i64 i ∧ i ≤ 32 ∧ n = 2 * i ∧ Own wr w.heap.size A n c (textU (d.take i)) ∧ BlkIs wr w.heap.size 23 (u8s d) ∧ Below w.heap.size w wr) (fun _ x _ => 32 - (intOf x).toNat)
  case atStart => exact ⟨_, 0, 0, 0, rfl, rfl, by omega, rfl, own_nil _ _, Hx.out, Hal.out⟩
  case round =>
    obtain ⟨A, n, c, i, rfl, rfl, hi, rfl, ho, hx, hbel⟩ := hrel
    have Ho := Lib.hid ho
    clear Hx Hal
    have Hx := Lib.hid hx
    have Hbel := Lib.hid hbel
    have hbd := ho.byt.le
    have hbc := ho.byt.cap
    unfold maxLen at hbc
    clear ho hbel
    by_cases hlt : i < 32
    · have hcl : wr.drew.cell? ⟨w.heap.size, i, none⟩ = some (.int .u8 (d.getD i 0 : Nat)) := by
        show wr.cell? _ = _
        rw [hx.cell]
        exact u8s_get d i (by rw [Hd.out]; exact hlt)
      have hc := Hb.out i
      have htake : d.take (i + 1) = d.take i ++ [d.getD i 0] := by
        rw [List.take_succ_eq_append_getElem (by rw [Hd.out]; exact hlt), List.getD, List.getElem?_eq_getElem (by rw [Hd.out]; exact hlt)]
        rfl
      generalize d.getD i 0 = x at *
      have hhc := hex_cells x hc
      have hsn0 := textU_snoc (d.take i) x
      have hw1 : IntKind.u8.wrap ((x : Int) / 16) = ((x / 16 : Nat) : Int) := by
        rw [u8_shr4]
        exact IntWalk.u8_in _ (by omega)
      have hw2 : (x : Int).tmod 16 = ((x % 16 : Nat) : Int) := by rw [Int.tmod_eq_emod_of_nonneg (by omega)]; omega
      have hx1 := fun W => run_index_hex W (x / 16) (by omega)
      have hx2 := fun W => run_index_hex W (x % 16) (by omega)
      generalize x / 16 = q at *
      generalize x % 16 = r at *
      have hsn := hsn0
      rw [← htake] at hsn
      have Hsn := Lib.hid hsn
      have Hcl := Lib.hid hcl
      have i1 : (i : Int) < 32 := by omega
      have i0 : (0 : Int) ≤ i := by omega
      clear htake hsn hsn0 hx hcl
      have Hhc := Lib.hid hhc
      clear hhc
      go_upto_region 5 with fail
      refine wp_region_held_drew (S := fun W => W.cell? ⟨w.heap.size, i, none⟩ = some (.int .u8 (x : Int))) (by kernel_rfl) Hcl.out (fun hHeld => ?_)
      change wpAnyH _ _ _ _ _ 14 (Array.replicate 14 false) _ _
      refine wpAnyH_take (i := 0) (oi := { dst := some 9, op := Op.move (Operand.tmp 3), type := 33, pos := "ref.go:139", after := #[], guard := none }) (v := ?v0) rfl (by kernel_rfl) (by kernel_rfl) (by kernel_rfl) (fun _ _ _ h => h) (Or.inl ⟨by rfl, ?hy0⟩) hHeld ?rest0
      case hy0 =>
        intro W hSw
        go_simp
        try with_reducible rfl
      try simp only [Act.put, List.setIfInBounds_toArray, List.set_cons_zero, List.set_cons_succ]
      refine wpAnyH_take (i := 1) (oi := { dst := some 10, op := Op.move (Operand.tmp 4), type := 3, pos := "ref.go:139", after := #[], guard := none }) (v := ?v1) rfl (by kernel_rfl) (by kernel_rfl) (by kernel_rfl) (fun _ _ _ h => h) (Or.inl ⟨by rfl, ?hy1⟩) hHeld ?rest1
      case hy1 =>
        intro W hSw
        go_simp
        try with_reducible rfl
      try simp only [Act.put, List.setIfInBounds_toArray, List.set_cons_zero, List.set_cons_succ]
      refine wpAnyH_take (i := 2) (oi := { dst := some 11, op := Op.indexAddr 23 (Operand.tmp 1) (Operand.tmp 10), type := 0, pos := "ref.go:139", after := #[{ on := 1, ground := Ground.data }], guard := none }) (v := ?v2) rfl (by kernel_rfl) (by kernel_rfl) (by kernel_rfl) (fun _ _ _ h => h) (Or.inl ⟨by rfl, ?hy2⟩) hHeld ?rest2
      case hy2 =>
        intro W hSw
        go_simp
        try with_reducible rfl
      try simp only [Act.put, List.setIfInBounds_toArray, List.set_cons_zero, List.set_cons_succ]
      refine wpAnyH_take (i := 3) (oi := { dst := some 12, op := Op.load 5 (Operand.tmp 11), type := 5, pos := "ref.go:139", after := #[{ on := 2, ground := Ground.data }], guard := none }) (v := ?v3) rfl (by kernel_rfl) (by kernel_rfl) (by kernel_rfl) (fun _ _ _ h => h) (Or.inl ⟨by rfl, ?hy3⟩) hHeld ?rest3
      case hy3 =>
        intro W hSw
        have hcl : W.cell? ⟨w.heap.size, i, none⟩ = some (.int .u8 (x : Int)) := hSw
        go_simp
        try with_reducible rfl
      try simp only [Act.put, List.setIfInBounds_toArray, List.set_cons_zero, List.set_cons_succ]
      refine wpAnyH_take (i := 4) (oi := { dst := some 13, op := Op.binOp BinOp.quo 5 (Operand.tmp 12) (Operand.const (Value.int IntKind.u8 16)) 5, type := 5, pos := "ref.go:139", after := #[{ on := 3, ground := Ground.data }], guard := none }) (v := ?v4) rfl (by kernel_rfl) (by kernel_rfl) (by kernel_rfl) (fun _ _ _ h => h) (Or.inl ⟨by rfl, ?hy4⟩) hHeld ?rest4
      case hy4 =>
        intro W hSw
        go_simp
        try with_reducible rfl
      try simp only [Act.put, List.setIfInBounds_toArray, List.set_cons_zero, List.set_cons_succ]
      refine wpAnyH_take (i := 5) (oi := { dst := some 14, op := Op.index 9 (Operand.const (Value.string { data := #[48, 49, 50, 51, 52, 53, 54, 55, 56, 57, 97, 98, 99, 100, 101, 102] })) (Operand.tmp 13), type := 5, pos := "ref.go:139", after := #[{ on := 4, ground := Ground.data }], guard := none }) (v := ?v5) rfl (by kernel_rfl) (by kernel_rfl) (by kernel_rfl) (fun _ _ _ h => h) (Or.inl ⟨by rfl, ?hy5⟩) hHeld ?rest5
      case hy5 =>
        intro W hSw
        go_simp
        try with_reducible rfl
      try simp only [Act.put, List.setIfInBounds_toArray, List.set_cons_zero, List.set_cons_succ]
      refine wpAnyH_take (i := 6) (oi := { dst := some 15, op := Op.move (Operand.tmp 4), type := 3, pos := "ref.go:139", after := #[], guard := none }) (v := ?v6) rfl (by kernel_rfl) (by kernel_rfl) (by kernel_rfl) (fun _ _ _ h => h) (Or.inl ⟨by rfl, ?hy6⟩) hHeld ?rest6
      case hy6 =>
        intro W hSw
        go_simp
        try with_reducible rfl
      try simp only [Act.put, List.setIfInBounds_toArray, List.set_cons_zero, List.set_cons_succ]
      refine wpAnyH_take (i := 7) (oi := { dst := some 16, op := Op.indexAddr 23 (Operand.tmp 1) (Operand.tmp 15), type := 0, pos := "ref.go:139", after := #[{ on := 6, ground := Ground.data }], guard := none }) (v := ?v7) rfl (by kernel_rfl) (by kernel_rfl) (by kernel_rfl) (fun _ _ _ h => h) (Or.inl ⟨by rfl, ?hy7⟩) hHeld ?rest7
      case hy7 =>
        intro W hSw
        go_simp
        try with_reducible rfl
      try simp only [Act.put, List.setIfInBounds_toArray, List.set_cons_zero, List.set_cons_succ]
      refine wpAnyH_take (i := 8) (oi := { dst := some 17, op := Op.load 5 (Operand.tmp 16), type := 5, pos := "ref.go:139", after := #[{ on := 7, ground := Ground.data }], guard := none }) (v := ?v8) rfl (by kernel_rfl) (by kernel_rfl) (by kernel_rfl) (fun _ _ _ h => h) (Or.inl ⟨by rfl, ?hy8⟩) hHeld ?rest8
      case hy8 =>
        intro W hSw
        have hcl : W.cell? ⟨w.heap.size, i, none⟩ = some (.int .u8 (x : Int)) := hSw
        go_simp
        try with_reducible rfl
      try simp only [Act.put, List.setIfInBounds_toArray, List.set_cons_zero, List.set_cons_succ]
      refine wpAnyH_take (i := 9) (oi := { dst := some 18, op := Op.binOp BinOp.rem 5 (Operand.tmp 17) (Operand.const (Value.int IntKind.u8 16)) 5, type := 5, pos := "ref.go:139", after := #[{ on := 8, ground := Ground.data }], guard := none }) (v := ?v9) rfl (by kernel_rfl) (by kernel_rfl) (by kernel_rfl) (fun _ _ _ h => h) (Or.inl ⟨by rfl, ?hy9⟩) hHeld ?rest9
      case hy9 =>
        intro W hSw
        go_simp
        try with_reducible rfl
      try simp only [Act.put, List.setIfInBounds_toArray, List.set_cons_zero, List.set_cons_succ]
      refine wpAnyH_take (i := 10) (oi := { dst := some 19, op := Op.index 9 (Operand.const (Value.string { data := #[48, 49, 50, 51, 52, 53, 54, 55, 56, 57, 97, 98, 99, 100, 101, 102] })) (Operand.tmp 18), type := 5, pos := "ref.go:139", after := #[{ on := 9, ground := Ground.data }], guard := none }) (v := ?v10) rfl (by kernel_rfl) (by kernel_rfl) (by kernel_rfl) (fun _ _ _ h => h) (Or.inl ⟨by rfl, ?hy10⟩) hHeld ?rest10
      case hy10 =>
        intro W hSw
        go_simp
        try with_reducible rfl
      try simp only [Act.put, List.setIfInBounds_toArray, List.set_cons_zero, List.set_cons_succ]
      have hal := Hbel.out.drew.alloc (Hbel.out.drew).size (.cells #[.int .u8 ((hexN q : Nat) : Int), .int .u8 ((hexN r : Nat) : Int)] 5)
      have hxa := BlkIs.here (w := wr.drew) Hx.out ((Below.refl _ _).alloc (Nat.le_refl _) (.cells #[.int .u8 ((hexN q : Nat) : Int), .int .u8 ((hexN r : Nat) : Int)] 5))
      have hca : (wr.drew.alloc (.cells #[.int .u8 ((hexN q : Nat) : Int), .int .u8 ((hexN r : Nat) : Int)] 5)).cell? ⟨w.heap.size, i, none⟩ = some (.int .u8 (x : Int)) := by
        rw [World.cell?_alloc_lt _ _ _ (World.block_lt_of_cell? _ _ Hcl.out)]
        exact Hcl.out
      have Hala := Lib.hid hal
      have Hxa := Lib.hid hxa
      have Hca := Lib.hid hca
      clear hal hxa hca
      refine wpAnyH_ready (rs := [11]) (by kernel_rfl) (by simp) ?_
      refine AllReadyH.cons (o := { dst := some 20, op := Op.buildSlice 33 2 #[(0, Operand.tmp 14), (1, Operand.tmp 19)], type := 33, pos := "ref.go:139", after := #[{ on := 5, ground := Ground.data }, { on := 10, ground := Ground.data }], guard := none }) rfl (fun K' hK => ?_) AllReadyH.nil
      go_simp
      refine hK.out _ _ Hca.out (fun hHeld => ?_)
      clear hK K'
      try simp only [Act.put, List.setIfInBounds_toArray, List.set_cons_zero, List.set_cons_succ]
      have hby := Byt.lit wr.drew #[.int .u8 ((hexN q : Nat) : Int), .int .u8 ((hexN r : Nat) : Int)] [UInt8.ofNat (hexN q), UInt8.ofNat (hexN r)] Hhc.out (by simp [maxLen])
      have hoa : Own (wr.drew.alloc (.cells #[.int .u8 ((hexN q : Nat) : Int), .int .u8 ((hexN r : Nat) : Int)] 5)) w.heap.size A (2 * i) c (textU (d.take i)) := Own.alloc (w := wr.drew) Ho.out _
      have Hby := Lib.hid hby
      have Hoa := Lib.hid hoa
      have Hne := Lib.hid (Hxa.out.own_ne (by decide) hoa)
      clear hby hoa
      refine wpAnyH_ready (rs := [12]) (by kernel_rfl) (by simp) ?_
      refine AllReadyH.cons (o := { dst := some 21, op := Op.call { callee := Callee.builtin Builtin.append, args := #[Operand.tmp 9, Operand.tmp 20], argTypes := #[33, 33] }, type := 33, pos := "ref.go:139", after := #[{ on := 0, ground := Ground.data }, { on := 11, ground := Ground.data }], guard := none }) rfl (fun K' hK => ?_) AllReadyH.nil
      rw [if_pos (by rfl)]
      refine wp_byte_append (.tmp 9) (.tmp 20) rfl w.heap.size A (2 * i) c (textU (d.take i)) rfl Hoa.out _ _ 2 2 _ rfl Hby.out (by omega) (by have := Hbel.out.size; simp; omega) ?_
      intro A2 c2 w2 ho2 hg2
      rw [← Hsn.out] at ho2
      have Ho2 := Lib.hid ho2
      have Hx2 := Lib.hid (Hxa.out.grown hg2 (Ne.symm Hne.out))
      have Hb2 := Lib.hid (Hala.out.grown hg2 Hala.out.size fun k hk => (World.ownsRow.lt Hoa.out k hk).1)
      have hc2 : w2.cell? ⟨w.heap.size, i, none⟩ = some (.int .u8 (x : Int)) := by
        have h1 := Hca.out
        rw [Hxa.out.cell] at h1
        rw [Hx2.out.cell]
        exact h1
      have Hc2 := Lib.hid hc2
      clear ho2 hg2 hc2
      refine hK.out _ _ Hc2.out (fun hHeld => ?_)
      clear hK K'
      try simp only [Act.put, List.setIfInBounds_toArray, List.set_cons_zero, List.set_cons_succ]
      refine wpAnyH_take (i := 13) (oi := { dst := some 3, op := Op.assign (Operand.tmp 21), type := 33, pos := "ref.go:139", after := #[{ on := 12, ground := Ground.data }, { on := 12, ground := Ground.chain }, { on := 0, ground := Ground.phase }, { on := 1, ground := Ground.phase }, { on := 2, ground := Ground.phase }, { on := 3, ground := Ground.phase }, { on := 4, ground := Ground.phase }, { on := 5, ground := Ground.phase }, { on := 6, ground := Ground.phase }, { on := 7, ground := Ground.phase }, { on := 8, ground := Ground.phase }, { on := 9, ground := Ground.phase }, { on := 10, ground := Ground.phase }, { on := 11, ground := Ground.phase }, { on := 12, ground := Ground.phase }], guard := none }) (v := ?v13) rfl (by kernel_rfl) (by kernel_rfl) (by kernel_rfl) (fun _ _ _ h => h) (Or.inl ⟨by rfl, ?hy13⟩) hHeld ?rest13
      case hy13 =>
        intro W hSw
        go_simp
        try with_reducible rfl
      try simp only [Act.put, List.setIfInBounds_toArray, List.set_cons_zero, List.set_cons_succ]
      refine wpAnyH_done (by kernel_rfl) ?_ _
      clear hHeld
      go_wp2
      go_roundw
      case rel => exact ⟨A2, 2 * i + 2, c2, i + 1, rfl, by go_num, by omega, by omega, Ho2.out, Hx2.out, Hb2.out⟩
      case measure => simp [intOf]; omega
    · obtain rfl : i = 32 := by omega
      have hfin : d.take 32 = d := List.take_of_length_le (by rw [Hd.out]; exact Nat.le_refl _)
      rw [hfin] at Ho
      have hcv := run_string_of_bytes Ho.out.byt
      clear hfin
      go_wp2
      go_ret
      exact ⟨rfl, Hbel.out⟩
end Go.Proofs.YtpgjnmakpghamaaDoor

/- Package table: made, its two regions that draw their order. Made by wip/tools/rg_made.py. -/
import Derived.Test.YtekcphpeaoaaaaaTbRg
namespace Go.Proofs.Ytekcphpeaoaaaaa
open Go.RowKit Go.Shelf
set_option linter.unusedVariables false
set_option maxRecDepth 100000
section
variable {ops : Array Oper} {a0 : Act} {W0 : World} {Q : Exit → Act → World → Prop} {B4 B5 : Nat} {ba oa m cc i : Nat} {u4 : Option Addr} {A5 : Option Addr} {n5 c5 : Nat} {xs : List KV} {p : Pr}
structure CMa (ops : Array Oper) (a0 : Act) (W0 : World) (B4 B5 : Nat) (ba oa m cc i : Nat) (u4 : Option Addr) (A5 : Option Addr) (n5 c5 : Nat) (xs : List KV) (p : Pr) : Prop where
  hops : rops Try.f16 7 = ops
  hz : a0.tmps.size = 58
  z4 : a0.eval (.tmp 4) = .pointer (some ⟨B4, 0, none⟩)
  z5 : a0.eval (.tmp 5) = .pointer (some ⟨B5, 0, none⟩)
  z0 : a0.eval (.tmp 0) = .slice (some ⟨ba, oa, none⟩) m cc
  z6 : a0.eval (.tmp 6) = .int .i64 (i : Int)
  b4 : BlkIs W0 B4 24 #[.pointer u4]
  b5 : BlkIs W0 B5 36 #[.slice A5 n5 c5]
  ne : B4 ≠ B5
  t4 : Tb W0 (.agg #[.pointer u4]) xs
  t5 : Rt W0 (.agg #[.slice A5 n5 c5]) xs
  xsn : xs.length < 100000000
  i1 : i < m
  k0 : W0.cell? ⟨ba, oa + i * 3, none⟩ = some (.string (S p.k))
  k1 : W0.cell? ⟨ba, oa + i * 3 + 1, none⟩ = some (.string (S p.v))
  j1 : p.k.length ≤ 100000
  j2 : p.v.length ≤ 100000
def KMa (W0 : World) (B4 B5 : Nat) (ba oa m cc i : Nat) (u4 : Option Addr) (A5 : Option Addr) (n5 c5 : Nat) (xs : List KV) (p : Pr) : List Kd := [Kd.eq (.agg #[.pointer u4]), Kd.eq (.slice (some ⟨ba, oa, none⟩) m cc), Kd.eq (.int .i64 (i : Int)), Kd.eq (.pointer (some ⟨ba, oa + i * 3, none⟩)), Kd.eq (.pointer (some ⟨ba, oa + i * 3, none⟩)), Kd.eq (.string (S p.k)), Kd.of (fun v W => Tb W v (era p.k xs)) Tb.nx, Kd.eq (.agg #[.slice A5 n5 c5]), Kd.eq (.slice (some ⟨ba, oa, none⟩) m cc), Kd.eq (.int .i64 (i : Int)), Kd.eq (.pointer (some ⟨ba, oa + i * 3, none⟩)), Kd.eq (.pointer (some ⟨ba, oa + i * 3, none⟩)), Kd.eq (.string (S p.k)), Kd.of (fun v W => Rt W v (era p.k xs)) Rt.nx, Kd.any, Kd.any]
/-- What is kept. -/
abbrev IMa (W0 : World) (B4 B5 : Nat) (ba oa m cc i : Nat) (u4 : Option Addr) (A5 : Option Addr) (n5 c5 : Nat) (xs : List KV) (p : Pr) : Array Bool → World → Prop := I2 14 15 W0 B4 B5 24 36 (.pointer u4) (.slice A5 n5 c5) (fun v W => Tb W v (era p.k xs)) (fun v W => Rt W v (era p.k xs))
theorem hMa_0 (c : CMa ops a0 W0 B4 B5 ba oa m cc i u4 A5 n5 c5 xs p) : ops[0]? = some { dst := some 18, op := .load 24 (.tmp 4), type := 24, pos := "law.go:40", after := #[], guard := none } := by rw [← c.hops]; rfl
theorem hMa_1 (c : CMa ops a0 W0 B4 B5 ba oa m cc i u4 A5 n5 c5 xs p) : ops[1]? = some { dst := some 19, op := .move (.tmp 0), type := 33, pos := "law.go:40", after := #[], guard := none } := by rw [← c.hops]; rfl
theorem hMa_2 (c : CMa ops a0 W0 B4 B5 ba oa m cc i u4 A5 n5 c5 xs p) : ops[2]? = some { dst := some 20, op := .move (.tmp 6), type := 3, pos := "law.go:40", after := #[], guard := none } := by rw [← c.hops]; rfl
theorem hMa_3 (c : CMa ops a0 W0 B4 B5 ba oa m cc i u4 A5 n5 c5 xs p) : ops[3]? = some { dst := some 21, op := .indexAddr 33 (.tmp 19) (.tmp 20), type := 0, pos := "law.go:40", after := #[{ on := 1, ground := .data }, { on := 2, ground := .data }], guard := none } := by rw [← c.hops]; rfl
theorem hMa_4 (c : CMa ops a0 W0 B4 B5 ba oa m cc i u4 A5 n5 c5 xs p) : ops[4]? = some { dst := some 22, op := .fieldAddr 40 (.tmp 21) 0, type := 0, pos := "law.go:40", after := #[{ on := 3, ground := .data }], guard := none } := by rw [← c.hops]; rfl
theorem hMa_5 (c : CMa ops a0 W0 B4 B5 ba oa m cc i u4 A5 n5 c5 xs p) : ops[5]? = some { dst := some 23, op := .load 9 (.tmp 22), type := 9, pos := "law.go:40", after := #[{ on := 4, ground := .data }], guard := none } := by rw [← c.hops]; rfl
theorem hMa_6 (c : CMa ops a0 W0 B4 B5 ba oa m cc i u4 A5 n5 c5 xs p) : ops[6]? = some { dst := some 24, op := .call { callee := .value (.func 14), args := #[.tmp 18, .tmp 23], argTypes := #[24, 9] }, type := 24, pos := "law.go:40", after := #[{ on := 0, ground := .data }, { on := 5, ground := .data }], guard := none } := by rw [← c.hops]; rfl
theorem hMa_7 (c : CMa ops a0 W0 B4 B5 ba oa m cc i u4 A5 n5 c5 xs p) : ops[7]? = some { dst := some 25, op := .load 36 (.tmp 5), type := 36, pos := "law.go:40", after := #[], guard := none } := by rw [← c.hops]; rfl
theorem hMa_8 (c : CMa ops a0 W0 B4 B5 ba oa m cc i u4 A5 n5 c5 xs p) : ops[8]? = some { dst := some 26, op := .move (.tmp 0), type := 33, pos := "law.go:40", after := #[], guard := none } := by rw [← c.hops]; rfl
theorem hMa_9 (c : CMa ops a0 W0 B4 B5 ba oa m cc i u4 A5 n5 c5 xs p) : ops[9]? = some { dst := some 27, op := .move (.tmp 6), type := 3, pos := "law.go:40", after := #[], guard := none } := by rw [← c.hops]; rfl
theorem hMa_10 (c : CMa ops a0 W0 B4 B5 ba oa m cc i u4 A5 n5 c5 xs p) : ops[10]? = some { dst := some 28, op := .indexAddr 33 (.tmp 26) (.tmp 27), type := 0, pos := "law.go:40", after := #[{ on := 8, ground := .data }, { on := 9, ground := .data }], guard := none } := by rw [← c.hops]; rfl
theorem hMa_11 (c : CMa ops a0 W0 B4 B5 ba oa m cc i u4 A5 n5 c5 xs p) : ops[11]? = some { dst := some 29, op := .fieldAddr 40 (.tmp 28) 0, type := 0, pos := "law.go:40", after := #[{ on := 10, ground := .data }], guard := none } := by rw [← c.hops]; rfl
theorem hMa_12 (c : CMa ops a0 W0 B4 B5 ba oa m cc i u4 A5 n5 c5 xs p) : ops[12]? = some { dst := some 30, op := .load 9 (.tmp 29), type := 9, pos := "law.go:40", after := #[{ on := 11, ground := .data }], guard := none } := by rw [← c.hops]; rfl
theorem hMa_13 (c : CMa ops a0 W0 B4 B5 ba oa m cc i u4 A5 n5 c5 xs p) : ops[13]? = some { dst := some 31, op := .call { callee := .value (.func 44), args := #[.tmp 25, .tmp 30], argTypes := #[36, 9] }, type := 36, pos := "law.go:40", after := #[{ on := 7, ground := .data }, { on := 12, ground := .data }, { on := 6, ground := .chain }], guard := none } := by rw [← c.hops]; rfl
theorem hMa_14 (c : CMa ops a0 W0 B4 B5 ba oa m cc i u4 A5 n5 c5 xs p) : ops[14]? = some { dst := none, op := .store 24 (.tmp 4) (.tmp 24), type := 0, pos := "law.go:40", after := #[{ on := 6, ground := .data }, { on := 13, ground := .chain }, { on := 0, ground := .phase }, { on := 1, ground := .phase }, { on := 2, ground := .phase }, { on := 3, ground := .phase }, { on := 4, ground := .phase }, { on := 5, ground := .phase }, { on := 6, ground := .phase }, { on := 7, ground := .textOnly .lateStores }, { on := 8, ground := .textOnly .lateStores }, { on := 9, ground := .textOnly .lateStores }, { on := 10, ground := .textOnly .lateStores }, { on := 11, ground := .textOnly .lateStores }, { on := 12, ground := .textOnly .lateStores }, { on := 13, ground := .textOnly .lateStoresUnsure }], guard := none } := by rw [← c.hops]; rfl
theorem hMa_15 (c : CMa ops a0 W0 B4 B5 ba oa m cc i u4 A5 n5 c5 xs p) : ops[15]? = some { dst := none, op := .store 36 (.tmp 5) (.tmp 31), type := 0, pos := "law.go:40", after := #[{ on := 13, ground := .data }, { on := 14, ground := .chain }, { on := 0, ground := .phase }, { on := 1, ground := .phase }, { on := 2, ground := .phase }, { on := 3, ground := .phase }, { on := 4, ground := .phase }, { on := 5, ground := .phase }, { on := 6, ground := .phase }, { on := 7, ground := .phase }, { on := 8, ground := .phase }, { on := 9, ground := .phase }, { on := 10, ground := .phase }, { on := 11, ground := .phase }, { on := 12, ground := .phase }, { on := 13, ground := .phase }, { on := 14, ground := .phase }], guard := none } := by rw [← c.hops]; rfl
theorem huMa (c : CMa ops a0 W0 B4 B5 ba oa m cc i u4 A5 n5 c5 xs p) : dstB ops = true := by rw [← c.hops]; kernel_rfl
theorem hoMa (c : CMa ops a0 W0 B4 B5 ba oa m cc i u4 A5 n5 c5 xs p) : ordB ops = true := by rw [← c.hops]; kernel_rfl
theorem hnMa (c : CMa ops a0 W0 B4 B5 ba oa m cc i u4 A5 n5 c5 xs p) : ops.size = 16 := by rw [← c.hops]; rfl
theorem hdMa (c : CMa ops a0 W0 B4 B5 ba oa m cc i u4 A5 n5 c5 xs p) : dsts ops = [18, 19, 20, 21, 22, 23, 24, 25, 26, 27, 28, 29, 30, 31] := by rw [← c.hops]; rfl
theorem oMa_4 (c : CMa ops a0 W0 B4 B5 ba oa m cc i u4 A5 n5 c5 xs p) : oldB ops 4 = true := by rw [← c.hops]; kernel_rfl
theorem oMa_5 (c : CMa ops a0 W0 B4 B5 ba oa m cc i u4 A5 n5 c5 xs p) : oldB ops 5 = true := by rw [← c.hops]; kernel_rfl
theorem oMa_0 (c : CMa ops a0 W0 B4 B5 ba oa m cc i u4 A5 n5 c5 xs p) : oldB ops 0 = true := by rw [← c.hops]; kernel_rfl
theorem oMa_6 (c : CMa ops a0 W0 B4 B5 ba oa m cc i u4 A5 n5 c5 xs p) : oldB ops 6 = true := by rw [← c.hops]; kernel_rfl
theorem ivMa (c : CMa ops a0 W0 B4 B5 ba oa m cc i u4 A5 n5 c5 xs p) {l : Array Bool} {W W' : World} (h : IMa W0 B4 B5 ba oa m cc i u4 A5 n5 c5 xs p l W) (hn : Nx W W') {i_ : Nat} (hi : i_ ≠ 14 ∧ i_ ≠ 15) : IMa W0 B4 B5 ba oa m cc i u4 A5 n5 c5 xs p (l.setIfInBounds i_ true) W' := I2.step h Tb.nx Rt.nx hn hi
theorem nxMa (c : CMa ops a0 W0 B4 B5 ba oa m cc i u4 A5 n5 c5 xs p) {l : Array Bool} {W : World} (h : IMa W0 B4 B5 ba oa m cc i u4 A5 n5 c5 xs p l W) (h6 : l.getD 14 false = false) : Nx W0 W := h.nx h6
theorem sMa_0 (c : CMa ops a0 W0 B4 B5 ba oa m cc i u4 A5 n5 c5 xs p) : Stp Try.prog ops Q a0 (KMa W0 B4 B5 ba oa m cc i u4 A5 n5 c5 xs p) (IMa W0 B4 B5 ba oa m cc i u4 A5 n5 c5 xs p) 0 := stp_val (huMa c) (hMa_0 c) rfl (by rw [c.hz]; decide) fun l a W hF hn hd => ⟨want_none rfl, by
    have e4 : a.eval (.tmp 4) = .pointer (some ⟨B4, 0, none⟩) := (hF.old (oMa_4 c)).trans c.z4
    have m := c.b4.at0 (nxMa c hF.inv (hF.off hn (hMa_14 c) (by rfl)))
    refine ⟨.agg #[.pointer u4], W, ?_, rfl, Nx.refl W, (ivMa c hF.inv (Nx.refl W) (i_ := 0) (by decide))⟩
    show (execOp a.eval _).run Try.prog W = _
    simp only [execOp, e4]
    simp [go_sem, m]⟩
theorem sMa_1 (c : CMa ops a0 W0 B4 B5 ba oa m cc i u4 A5 n5 c5 xs p) : Stp Try.prog ops Q a0 (KMa W0 B4 B5 ba oa m cc i u4 A5 n5 c5 xs p) (IMa W0 B4 B5 ba oa m cc i u4 A5 n5 c5 xs p) 1 := stp_val (huMa c) (hMa_1 c) rfl (by rw [c.hz]; decide) fun l a W hF hn hd => ⟨want_none rfl, by
    have e0 : a.eval (.tmp 0) = .slice (some ⟨ba, oa, none⟩) m cc := (hF.old (oMa_0 c)).trans c.z0
    exact ⟨.slice (some ⟨ba, oa, none⟩) m cc, W, by show Result.ok (Next.value (a.eval _)) W = _; rw [e0], rfl, Nx.refl W, (ivMa c hF.inv (Nx.refl W) (i_ := 1) (by decide))⟩⟩
theorem sMa_2 (c : CMa ops a0 W0 B4 B5 ba oa m cc i u4 A5 n5 c5 xs p) : Stp Try.prog ops Q a0 (KMa W0 B4 B5 ba oa m cc i u4 A5 n5 c5 xs p) (IMa W0 B4 B5 ba oa m cc i u4 A5 n5 c5 xs p) 2 := stp_val (huMa c) (hMa_2 c) rfl (by rw [c.hz]; decide) fun l a W hF hn hd => ⟨want_none rfl, by
    have e6 : a.eval (.tmp 6) = .int .i64 (i : Int) := (hF.old (oMa_6 c)).trans c.z6
    exact ⟨.int .i64 (i : Int), W, by show Result.ok (Next.value (a.eval _)) W = _; rw [e6], rfl, Nx.refl W, (ivMa c hF.inv (Nx.refl W) (i_ := 2) (by decide))⟩⟩
theorem sMa_3 (c : CMa ops a0 W0 B4 B5 ba oa m cc i u4 A5 n5 c5 xs p) : Stp Try.prog ops Q a0 (KMa W0 B4 B5 ba oa m cc i u4 A5 n5 c5 xs p) (IMa W0 B4 B5 ba oa m cc i u4 A5 n5 c5 xs p) 3 := stp_val (huMa c) (hMa_3 c) rfl (by rw [c.hz]; decide) fun l a W hF hn hd => ⟨want_none rfl, by
    have e19 : a.eval (.tmp 19) = .slice (some ⟨ba, oa, none⟩) m cc := by obtain ⟨v, e, p⟩ := hF.get (hMa_1 c) rfl (hd.at 1 (by rfl)); exact e.trans p
    have e20 : a.eval (.tmp 20) = .int .i64 (i : Int) := by obtain ⟨v, e, p⟩ := hF.get (hMa_2 c) rfl (hd.at 2 (by rfl)); exact e.trans p
    have x1 := c.i1; have x2 : (0 : Int) ≤ (i : Int) := Int.natCast_nonneg i; have x3 : ((i : Int) < (m : Int)) := by omega
    refine ⟨.pointer (some ⟨ba, oa + i * 3, none⟩), W, ?_, rfl, Nx.refl W, (ivMa c hF.inv (Nx.refl W) (i_ := 3) (by decide))⟩
    show (execOp a.eval _).run Try.prog W = _
    simp only [execOp, e19, e20]
    simp [go_sem, x2, x3]⟩
theorem sMa_4 (c : CMa ops a0 W0 B4 B5 ba oa m cc i u4 A5 n5 c5 xs p) : Stp Try.prog ops Q a0 (KMa W0 B4 B5 ba oa m cc i u4 A5 n5 c5 xs p) (IMa W0 B4 B5 ba oa m cc i u4 A5 n5 c5 xs p) 4 := stp_val (huMa c) (hMa_4 c) rfl (by rw [c.hz]; decide) fun l a W hF hn hd => ⟨want_none rfl, by
    have e21 : a.eval (.tmp 21) = .pointer (some ⟨ba, oa + i * 3, none⟩) := by obtain ⟨v, e, p⟩ := hF.get (hMa_3 c) rfl (hd.at 3 (by rfl)); exact e.trans p
    refine ⟨.pointer (some ⟨ba, oa + i * 3, none⟩), W, ?_, rfl, Nx.refl W, (ivMa c hF.inv (Nx.refl W) (i_ := 4) (by decide))⟩
    show (execOp a.eval _).run Try.prog W = _
    simp only [execOp, e21]
    simp [go_sem]⟩
theorem sMa_5 (c : CMa ops a0 W0 B4 B5 ba oa m cc i u4 A5 n5 c5 xs p) : Stp Try.prog ops Q a0 (KMa W0 B4 B5 ba oa m cc i u4 A5 n5 c5 xs p) (IMa W0 B4 B5 ba oa m cc i u4 A5 n5 c5 xs p) 5 := stp_val (huMa c) (hMa_5 c) rfl (by rw [c.hz]; decide) fun l a W hF hn hd => ⟨want_none rfl, by
    have e22 : a.eval (.tmp 22) = .pointer (some ⟨ba, oa + i * 3, none⟩) := by obtain ⟨v, e, p⟩ := hF.get (hMa_4 c) rfl (hd.at 4 (by rfl)); exact e.trans p
    have m := cell_nx c.k0 (nxMa c hF.inv (hF.off hn (hMa_14 c) (by rfl)))
    refine ⟨.string (S p.k), W, ?_, rfl, Nx.refl W, (ivMa c hF.inv (Nx.refl W) (i_ := 5) (by decide))⟩
    show (execOp a.eval _).run Try.prog W = _
    simp only [execOp, e22]
    simp [go_sem, m]⟩
theorem sMa_6 (c : CMa ops a0 W0 B4 B5 ba oa m cc i u4 A5 n5 c5 xs p) : Stp Try.prog ops Q a0 (KMa W0 B4 B5 ba oa m cc i u4 A5 n5 c5 xs p) (IMa W0 B4 B5 ba oa m cc i u4 A5 n5 c5 xs p) 6 := stp_call (huMa c) (hMa_6 c) rfl (by rw [c.hz]; decide) fun l a W hF hn hd => ⟨want_none rfl, by
    have e18 : a.eval (.tmp 18) = .agg #[.pointer u4] := by obtain ⟨v, e, p⟩ := hF.get (hMa_0 c) rfl (hd.at 0 (by rfl)); exact e.trans p
    have e23 : a.eval (.tmp 23) = .string (S p.k) := by obtain ⟨v, e, p⟩ := hF.get (hMa_5 c) rfl (hd.at 5 (by rfl)); exact e.trans p
    refine ⟨14, #[.agg #[.pointer u4], .string (S p.k)], _, run_enter rfl (by simp only [List.map_toArray, List.map_cons, List.map_nil, e18, e23]) (eval_func _ _) (enters_of Try.func14 (by kernel_rfl) rfl), tdrop_any W _ xs p.k (c.t4.nx (nxMa c hF.inv (hF.off hn (hMa_14 c) (by rfl)))) (Nat.le_of_lt c.xsn), ?_⟩
    rintro e W' ⟨r, rfl, hrow, hn2⟩; exact ⟨_, rfl, hrow, hn2, (ivMa c hF.inv hn2 (i_ := 6) (by decide))⟩⟩
theorem sMa_7 (c : CMa ops a0 W0 B4 B5 ba oa m cc i u4 A5 n5 c5 xs p) : Stp Try.prog ops Q a0 (KMa W0 B4 B5 ba oa m cc i u4 A5 n5 c5 xs p) (IMa W0 B4 B5 ba oa m cc i u4 A5 n5 c5 xs p) 7 := stp_val (huMa c) (hMa_7 c) rfl (by rw [c.hz]; decide) fun l a W hF hn hd => ⟨want_none rfl, by
    have e5 : a.eval (.tmp 5) = .pointer (some ⟨B5, 0, none⟩) := (hF.old (oMa_5 c)).trans c.z5
    have m := c.b5.at0 (nxMa c hF.inv (hF.off (hF.off hn (hMa_13 c) (by rfl)) (hMa_14 c) (by rfl)))
    refine ⟨.agg #[.slice A5 n5 c5], W, ?_, rfl, Nx.refl W, (ivMa c hF.inv (Nx.refl W) (i_ := 7) (by decide))⟩
    show (execOp a.eval _).run Try.prog W = _
    simp only [execOp, e5]
    simp [go_sem, m]⟩
theorem sMa_8 (c : CMa ops a0 W0 B4 B5 ba oa m cc i u4 A5 n5 c5 xs p) : Stp Try.prog ops Q a0 (KMa W0 B4 B5 ba oa m cc i u4 A5 n5 c5 xs p) (IMa W0 B4 B5 ba oa m cc i u4 A5 n5 c5 xs p) 8 := stp_val (huMa c) (hMa_8 c) rfl (by rw [c.hz]; decide) fun l a W hF hn hd => ⟨want_none rfl, by
    have e0 : a.eval (.tmp 0) = .slice (some ⟨ba, oa, none⟩) m cc := (hF.old (oMa_0 c)).trans c.z0
    exact ⟨.slice (some ⟨ba, oa, none⟩) m cc, W, by show Result.ok (Next.value (a.eval _)) W = _; rw [e0], rfl, Nx.refl W, (ivMa c hF.inv (Nx.refl W) (i_ := 8) (by decide))⟩⟩
theorem sMa_9 (c : CMa ops a0 W0 B4 B5 ba oa m cc i u4 A5 n5 c5 xs p) : Stp Try.prog ops Q a0 (KMa W0 B4 B5 ba oa m cc i u4 A5 n5 c5 xs p) (IMa W0 B4 B5 ba oa m cc i u4 A5 n5 c5 xs p) 9 := stp_val (huMa c) (hMa_9 c) rfl (by rw [c.hz]; decide) fun l a W hF hn hd => ⟨want_none rfl, by
    have e6 : a.eval (.tmp 6) = .int .i64 (i : Int) := (hF.old (oMa_6 c)).trans c.z6
    exact ⟨.int .i64 (i : Int), W, by show Result.ok (Next.value (a.eval _)) W = _; rw [e6], rfl, Nx.refl W, (ivMa c hF.inv (Nx.refl W) (i_ := 9) (by decide))⟩⟩
theorem sMa_10 (c : CMa ops a0 W0 B4 B5 ba oa m cc i u4 A5 n5 c5 xs p) : Stp Try.prog ops Q a0 (KMa W0 B4 B5 ba oa m cc i u4 A5 n5 c5 xs p) (IMa W0 B4 B5 ba oa m cc i u4 A5 n5 c5 xs p) 10 := stp_val (huMa c) (hMa_10 c) rfl (by rw [c.hz]; decide) fun l a W hF hn hd => ⟨want_none rfl, by
    have e26 : a.eval (.tmp 26) = .slice (some ⟨ba, oa, none⟩) m cc := by obtain ⟨v, e, p⟩ := hF.get (hMa_8 c) rfl (hd.at 8 (by rfl)); exact e.trans p
    have e27 : a.eval (.tmp 27) = .int .i64 (i : Int) := by obtain ⟨v, e, p⟩ := hF.get (hMa_9 c) rfl (hd.at 9 (by rfl)); exact e.trans p
    have x1 := c.i1; have x2 : (0 : Int) ≤ (i : Int) := Int.natCast_nonneg i; have x3 : ((i : Int) < (m : Int)) := by omega
    refine ⟨.pointer (some ⟨ba, oa + i * 3, none⟩), W, ?_, rfl, Nx.refl W, (ivMa c hF.inv (Nx.refl W) (i_ := 10) (by decide))⟩
    show (execOp a.eval _).run Try.prog W = _
    simp only [execOp, e26, e27]
    simp [go_sem, x2, x3]⟩
theorem sMa_11 (c : CMa ops a0 W0 B4 B5 ba oa m cc i u4 A5 n5 c5 xs p) : Stp Try.prog ops Q a0 (KMa W0 B4 B5 ba oa m cc i u4 A5 n5 c5 xs p) (IMa W0 B4 B5 ba oa m cc i u4 A5 n5 c5 xs p) 11 := stp_val (huMa c) (hMa_11 c) rfl (by rw [c.hz]; decide) fun l a W hF hn hd => ⟨want_none rfl, by
    have e28 : a.eval (.tmp 28) = .pointer (some ⟨ba, oa + i * 3, none⟩) := by obtain ⟨v, e, p⟩ := hF.get (hMa_10 c) rfl (hd.at 10 (by rfl)); exact e.trans p
    refine ⟨.pointer (some ⟨ba, oa + i * 3, none⟩), W, ?_, rfl, Nx.refl W, (ivMa c hF.inv (Nx.refl W) (i_ := 11) (by decide))⟩
    show (execOp a.eval _).run Try.prog W = _
    simp only [execOp, e28]
    simp [go_sem]⟩
theorem sMa_12 (c : CMa ops a0 W0 B4 B5 ba oa m cc i u4 A5 n5 c5 xs p) : Stp Try.prog ops Q a0 (KMa W0 B4 B5 ba oa m cc i u4 A5 n5 c5 xs p) (IMa W0 B4 B5 ba oa m cc i u4 A5 n5 c5 xs p) 12 := stp_val (huMa c) (hMa_12 c) rfl (by rw [c.hz]; decide) fun l a W hF hn hd => ⟨want_none rfl, by
    have e29 : a.eval (.tmp 29) = .pointer (some ⟨ba, oa + i * 3, none⟩) := by obtain ⟨v, e, p⟩ := hF.get (hMa_11 c) rfl (hd.at 11 (by rfl)); exact e.trans p
    have m := cell_nx c.k0 (nxMa c hF.inv (hF.off (hF.off hn (hMa_13 c) (by rfl)) (hMa_14 c) (by rfl)))
    refine ⟨.string (S p.k), W, ?_, rfl, Nx.refl W, (ivMa c hF.inv (Nx.refl W) (i_ := 12) (by decide))⟩
    show (execOp a.eval _).run Try.prog W = _
    simp only [execOp, e29]
    simp [go_sem, m]⟩
theorem sMa_13 (c : CMa ops a0 W0 B4 B5 ba oa m cc i u4 A5 n5 c5 xs p) : Stp Try.prog ops Q a0 (KMa W0 B4 B5 ba oa m cc i u4 A5 n5 c5 xs p) (IMa W0 B4 B5 ba oa m cc i u4 A5 n5 c5 xs p) 13 := stp_call (huMa c) (hMa_13 c) rfl (by rw [c.hz]; decide) fun l a W hF hn hd => ⟨want_none rfl, by
    have e25 : a.eval (.tmp 25) = .agg #[.slice A5 n5 c5] := by obtain ⟨v, e, p⟩ := hF.get (hMa_7 c) rfl (hd.at 7 (by rfl)); exact e.trans p
    have e30 : a.eval (.tmp 30) = .string (S p.k) := by obtain ⟨v, e, p⟩ := hF.get (hMa_12 c) rfl (hd.at 12 (by rfl)); exact e.trans p
    refine ⟨44, #[.agg #[.slice A5 n5 c5], .string (S p.k)], _, run_enter rfl (by simp only [List.map_toArray, List.map_cons, List.map_nil, e25, e30]) (eval_func _ _) (enters_of Try.func44 (by kernel_rfl) rfl), rdrop_any W _ xs p.k (c.t5.nx (nxMa c hF.inv (hF.off hn (hMa_14 c) (by rfl)))) (Nat.le_of_lt c.xsn), ?_⟩
    rintro e W' ⟨r, rfl, hrow, hn2⟩; exact ⟨_, rfl, hrow, hn2, (ivMa c hF.inv hn2 (i_ := 13) (by decide))⟩⟩
theorem sMa_14 (c : CMa ops a0 W0 B4 B5 ba oa m cc i u4 A5 n5 c5 xs p) : Stp Try.prog ops Q a0 (KMa W0 B4 B5 ba oa m cc i u4 A5 n5 c5 xs p) (IMa W0 B4 B5 ba oa m cc i u4 A5 n5 c5 xs p) 14 := stp_skip (hMa_14 c) rfl fun l a W hF hn hd => ⟨want_none rfl, by
    have e4 : a.eval (.tmp 4) = .pointer (some ⟨B4, 0, none⟩) := (hF.old (oMa_4 c)).trans c.z4
    obtain ⟨v24, e24, p24⟩ := hF.get (hMa_6 c) rfl (hd.at 6 (by rfl))
    have p24 : Tb W v24 (era p.k xs) := p24
    have h2 := hF.off hn (hMa_15 c) (by rfl)
    have nx := hF.inv.nx hn
    obtain ⟨u, rfl⟩ := Tb.agg p24
    have hb := c.b4.nx nx
    have m := c.b4.at0 nx
    have f := hb.frozen 0
    refine ⟨W.setCell ⟨B4, 0, none⟩ (.pointer u), ?_, fun j v hne hl => match j, hne, hl with | 0, hne, hl => fun h => h | 1, hne, hl => fun h => h | 2, hne, hl => fun h => h | 3, hne, hl => fun h => h | 4, hne, hl => fun h => h | 5, hne, hl => fun h => h | 6, hne, hl => fun h => Tb.store h hb (by decide) 0 _ | 7, hne, hl => fun h => h | 8, hne, hl => fun h => h | 9, hne, hl => fun h => h | 10, hne, hl => fun h => h | 11, hne, hl => fun h => h | 12, hne, hl => fun h => h | 13, hne, hl => fun h => Rt.store h hb (fun s h => by cases h) _ | 14, hne, hl => fun h => absurd rfl hne | 15, hne, hl => fun h => h | (k + 16), _, _ => fun _ => trivial, hF.inv.putB c.b4 c.ne (by decide) (hF.lt (hMa_14 c)) hn h2 (p24.store hb (by decide) 0 _)⟩
    show (execOp a.eval _).run Try.prog W = _
    simp only [execOp, e4, e24]
    simp [go_sem, m, f]⟩
theorem sMa_15 (c : CMa ops a0 W0 B4 B5 ba oa m cc i u4 A5 n5 c5 xs p) : Stp Try.prog ops Q a0 (KMa W0 B4 B5 ba oa m cc i u4 A5 n5 c5 xs p) (IMa W0 B4 B5 ba oa m cc i u4 A5 n5 c5 xs p) 15 := stp_skip (hMa_15 c) rfl fun l a W hF hn hd => ⟨want_none rfl, by
    have e5 : a.eval (.tmp 5) = .pointer (some ⟨B5, 0, none⟩) := (hF.old (oMa_5 c)).trans c.z5
    obtain ⟨v31, e31, p31⟩ := hF.get (hMa_13 c) rfl (hd.at 13 (by rfl))
    have p31 : Rt W v31 (era p.k xs) := p31
    have h1 := hd.at 14 (by rfl)
    obtain ⟨A1, n1, c1, rfl⟩ := Rt.agg p31
    have hb := hF.inv.c0 hn
    have m : W.cell? ⟨B5, 0, none⟩ = some _ := hb.at0 (Nx.refl W)
    have f := hb.frozen 0
    refine ⟨W.setCell ⟨B5, 0, none⟩ (.slice A1 n1 c1), ?_, fun j v hne hl => match j, hne, hl with | 0, hne, hl => fun h => h | 1, hne, hl => fun h => h | 2, hne, hl => fun h => h | 3, hne, hl => fun h => h | 4, hne, hl => fun h => h | 5, hne, hl => fun h => h | 6, hne, hl => fun h => Tb.store h hb (by decide) 0 _ | 7, hne, hl => fun h => h | 8, hne, hl => fun h => h | 9, hne, hl => fun h => h | 10, hne, hl => fun h => h | 11, hne, hl => fun h => h | 12, hne, hl => fun h => h | 13, hne, hl => fun h => Rt.store h hb (fun s h => by cases h) _ | 14, hne, hl => fun h => h | 15, hne, hl => fun h => absurd rfl hne | (k + 16), _, _ => fun _ => trivial, hF.inv.putC c.ne (by decide) (hF.lt (hMa_15 c)) h1 hn (fun v h => Tb.store h hb (by decide) 0 _) (p31.store hb (fun s h => by cases h) _)⟩
    show (execOp a.eval _).run Try.prog W = _
    simp only [execOp, e5, e31]
    simp [go_sem, m, f]⟩
theorem rgMa (c : CMa ops a0 W0 B4 B5 ba oa m cc i u4 A5 n5 c5 xs p) {id : Nat} (fin : ∀ (x18 x19 x20 x21 x22 x23 x24 x25 x26 x27 x28 x29 x30 x31 : Value) (W : World), Chd (fun k => k = B4 ∨ k = B5) W0 W → (∃ u, BlkIs W B4 24 #[u] ∧ Tb W (.agg #[u]) (era p.k xs)) → (∃ u, BlkIs W B5 36 #[u] ∧ Rt W (.agg #[u]) (era p.k xs)) → Q .normal { tmps := ((((((((((((((a0.tmps.setIfInBounds 18 x18).setIfInBounds 19 x19).setIfInBounds 20 x20).setIfInBounds 21 x21).setIfInBounds 22 x22).setIfInBounds 23 x23).setIfInBounds 24 x24).setIfInBounds 25 x25).setIfInBounds 26 x26).setIfInBounds 27 x27).setIfInBounds 28 x28).setIfInBounds 29 x29).setIfInBounds 30 x30).setIfInBounds 31 x31), defers := a0.defers } W) : (Code.region id ops true).wp Try.prog Q a0 W0 := by
  refine flows (K := (KMa W0 B4 B5 ba oa m cc i u4 A5 n5 c5 xs p)) (Inv := (IMa W0 B4 B5 ba oa m cc i u4 A5 n5 c5 xs p)) (by kernel_rfl) (hoMa c) (hnMa c) (I2.start c.b4 c.b5) ⟨⟨⟨⟨⟨⟨⟨⟨⟨⟨⟨⟨⟨⟨⟨⟨trivial, sMa_0 c⟩, sMa_1 c⟩, sMa_2 c⟩, sMa_3 c⟩, sMa_4 c⟩, sMa_5 c⟩, sMa_6 c⟩, sMa_7 c⟩, sMa_8 c⟩, sMa_9 c⟩, sMa_10 c⟩, sMa_11 c⟩, sMa_12 c⟩, sMa_13 c⟩, sMa_14 c⟩, sMa_15 c⟩ fun l a W hF hl => ?_
  have f := hF.form
  rw [hdMa c] at f
  simp only [List.foldl] at f
  rw [f]
  exact fin _ _ _ _ _ _ _ _ _ _ _ _ _ _ W  hF.inv.chd (hF.inv.b (hl 14 (by decide))) (hF.inv.c (hl 15 (by decide)))
theorem rgMaL {t0_ t1_ t2_ t3_ t4_ t5_ t6_ t7_ t8_ t9_ t10_ t11_ t12_ t13_ t14_ t15_ t16_ t17_ t18_ t19_ t20_ t21_ t22_ t23_ t24_ t25_ t26_ t27_ t28_ t29_ t30_ t31_ t32_ t33_ t34_ t35_ t36_ t37_ t38_ t39_ t40_ t41_ t42_ t43_ t44_ t45_ t46_ t47_ t48_ t49_ t50_ t51_ t52_ t53_ t54_ t55_ t56_ t57_ : Value} {d_ : List Deferred} (c : CMa ops { tmps := #[t0_, t1_, t2_, t3_, t4_, t5_, t6_, t7_, t8_, t9_, t10_, t11_, t12_, t13_, t14_, t15_, t16_, t17_, t18_, t19_, t20_, t21_, t22_, t23_, t24_, t25_, t26_, t27_, t28_, t29_, t30_, t31_, t32_, t33_, t34_, t35_, t36_, t37_, t38_, t39_, t40_, t41_, t42_, t43_, t44_, t45_, t46_, t47_, t48_, t49_, t50_, t51_, t52_, t53_, t54_, t55_, t56_, t57_], defers := d_ } W0 B4 B5 ba oa m cc i u4 A5 n5 c5 xs p) {id : Nat} (fin : ∀ (x18 x19 x20 x21 x22 x23 x24 x25 x26 x27 x28 x29 x30 x31 : Value) (W : World), Chd (fun k => k = B4 ∨ k = B5) W0 W → (∃ u, BlkIs W B4 24 #[u] ∧ Tb W (.agg #[u]) (era p.k xs)) → (∃ u, BlkIs W B5 36 #[u] ∧ Rt W (.agg #[u]) (era p.k xs)) → Q .normal { tmps := #[t0_, t1_, t2_, t3_, t4_, t5_, t6_, t7_, t8_, t9_, t10_, t11_, t12_, t13_, t14_, t15_, t16_, t17_, x18, x19, x20, x21, x22, x23, x24, x25, x26, x27, x28, x29, x30, x31, t32_, t33_, t34_, t35_, t36_, t37_, t38_, t39_, t40_, t41_, t42_, t43_, t44_, t45_, t46_, t47_, t48_, t49_, t50_, t51_, t52_, t53_, t54_, t55_, t56_, t57_], defers := d_ } W) : (Code.region id ops true).wp Try.prog Q { tmps := #[t0_, t1_, t2_, t3_, t4_, t5_, t6_, t7_, t8_, t9_, t10_, t11_, t12_, t13_, t14_, t15_, t16_, t17_, t18_, t19_, t20_, t21_, t22_, t23_, t24_, t25_, t26_, t27_, t28_, t29_, t30_, t31_, t32_, t33_, t34_, t35_, t36_, t37_, t38_, t39_, t40_, t41_, t42_, t43_, t44_, t45_, t46_, t47_, t48_, t49_, t50_, t51_, t52_, t53_, t54_, t55_, t56_, t57_], defers := d_ } W0 := by
  refine rgMa c ?_
  intro x18 x19 x20 x21 x22 x23 x24 x25 x26 x27 x28 x29 x30 x31 W
  have e : ((((((((((((((#[t0_, t1_, t2_, t3_, t4_, t5_, t6_, t7_, t8_, t9_, t10_, t11_, t12_, t13_, t14_, t15_, t16_, t17_, t18_, t19_, t20_, t21_, t22_, t23_, t24_, t25_, t26_, t27_, t28_, t29_, t30_, t31_, t32_, t33_, t34_, t35_, t36_, t37_, t38_, t39_, t40_, t41_, t42_, t43_, t44_, t45_, t46_, t47_, t48_, t49_, t50_, t51_, t52_, t53_, t54_, t55_, t56_, t57_].setIfInBounds 18 x18).setIfInBounds 19 x19).setIfInBounds 20 x20).setIfInBounds 21 x21).setIfInBounds 22 x22).setIfInBounds 23 x23).setIfInBounds 24 x24).setIfInBounds 25 x25).setIfInBounds 26 x26).setIfInBounds 27 x27).setIfInBounds 28 x28).setIfInBounds 29 x29).setIfInBounds 30 x30).setIfInBounds 31 x31) = #[t0_, t1_, t2_, t3_, t4_, t5_, t6_, t7_, t8_, t9_, t10_, t11_, t12_, t13_, t14_, t15_, t16_, t17_, x18, x19, x20, x21, x22, x23, x24, x25, x26, x27, x28, x29, x30, x31, t32_, t33_, t34_, t35_, t36_, t37_, t38_, t39_, t40_, t41_, t42_, t43_, t44_, t45_, t46_, t47_, t48_, t49_, t50_, t51_, t52_, t53_, t54_, t55_, t56_, t57_] := by kernel_rfl
  have f := fin x18 x19 x20 x21 x22 x23 x24 x25 x26 x27 x28 x29 x30 x31 W
  rw [← e] at f
  exact f
end
section
variable {ops : Array Oper} {a0 : Act} {W0 : World} {Q : Exit → Act → World → Prop} {B4 B5 : Nat} {ba oa m cc i : Nat} {u4 : Option Addr} {A5 : Option Addr} {n5 c5 : Nat} {xs : List KV} {p : Pr}
structure CMb (ops : Array Oper) (a0 : Act) (W0 : World) (B4 B5 : Nat) (ba oa m cc i : Nat) (u4 : Option Addr) (A5 : Option Addr) (n5 c5 : Nat) (xs : List KV) (p : Pr) : Prop where
  hops : rops Try.f16 8 = ops
  hz : a0.tmps.size = 58
  z4 : a0.eval (.tmp 4) = .pointer (some ⟨B4, 0, none⟩)
  z5 : a0.eval (.tmp 5) = .pointer (some ⟨B5, 0, none⟩)
  z0 : a0.eval (.tmp 0) = .slice (some ⟨ba, oa, none⟩) m cc
  z6 : a0.eval (.tmp 6) = .int .i64 (i : Int)
  b4 : BlkIs W0 B4 24 #[.pointer u4]
  b5 : BlkIs W0 B5 36 #[.slice A5 n5 c5]
  ne : B4 ≠ B5
  t4 : Tb W0 (.agg #[.pointer u4]) xs
  t5 : Rt W0 (.agg #[.slice A5 n5 c5]) xs
  xsn : xs.length < 100000000
  i1 : i < m
  k0 : W0.cell? ⟨ba, oa + i * 3, none⟩ = some (.string (S p.k))
  k1 : W0.cell? ⟨ba, oa + i * 3 + 1, none⟩ = some (.string (S p.v))
  j1 : p.k.length ≤ 100000
  j2 : p.v.length ≤ 100000
def KMb (W0 : World) (B4 B5 : Nat) (ba oa m cc i : Nat) (u4 : Option Addr) (A5 : Option Addr) (n5 c5 : Nat) (xs : List KV) (p : Pr) : List Kd := [Kd.eq (.agg #[.pointer u4]), Kd.eq (.slice (some ⟨ba, oa, none⟩) m cc), Kd.eq (.int .i64 (i : Int)), Kd.eq (.pointer (some ⟨ba, oa + i * 3, none⟩)), Kd.eq (.pointer (some ⟨ba, oa + i * 3, none⟩)), Kd.eq (.string (S p.k)), Kd.eq (.slice (some ⟨ba, oa, none⟩) m cc), Kd.eq (.int .i64 (i : Int)), Kd.eq (.pointer (some ⟨ba, oa + i * 3, none⟩)), Kd.eq (.pointer (some ⟨ba, oa + i * 3 + 1, none⟩)), Kd.eq (.string (S p.v)), Kd.of (fun v W => Tb W v (ins p.k p.v xs)) Tb.nx, Kd.eq (.agg #[.slice A5 n5 c5]), Kd.eq (.slice (some ⟨ba, oa, none⟩) m cc), Kd.eq (.int .i64 (i : Int)), Kd.eq (.pointer (some ⟨ba, oa + i * 3, none⟩)), Kd.eq (.pointer (some ⟨ba, oa + i * 3, none⟩)), Kd.eq (.string (S p.k)), Kd.eq (.slice (some ⟨ba, oa, none⟩) m cc), Kd.eq (.int .i64 (i : Int)), Kd.eq (.pointer (some ⟨ba, oa + i * 3, none⟩)), Kd.eq (.pointer (some ⟨ba, oa + i * 3 + 1, none⟩)), Kd.eq (.string (S p.v)), Kd.of (fun v W => Rt W v (ins p.k p.v xs)) Rt.nx, Kd.any, Kd.any]
/-- What is kept. -/
abbrev IMb (W0 : World) (B4 B5 : Nat) (ba oa m cc i : Nat) (u4 : Option Addr) (A5 : Option Addr) (n5 c5 : Nat) (xs : List KV) (p : Pr) : Array Bool → World → Prop := I2 24 25 W0 B4 B5 24 36 (.pointer u4) (.slice A5 n5 c5) (fun v W => Tb W v (ins p.k p.v xs)) (fun v W => Rt W v (ins p.k p.v xs))
theorem hMb_0 (c : CMb ops a0 W0 B4 B5 ba oa m cc i u4 A5 n5 c5 xs p) : ops[0]? = some { dst := some 32, op := .load 24 (.tmp 4), type := 24, pos := "law.go:42", after := #[], guard := none } := by rw [← c.hops]; rfl
theorem hMb_1 (c : CMb ops a0 W0 B4 B5 ba oa m cc i u4 A5 n5 c5 xs p) : ops[1]? = some { dst := some 33, op := .move (.tmp 0), type := 33, pos := "law.go:42", after := #[], guard := none } := by rw [← c.hops]; rfl
theorem hMb_2 (c : CMb ops a0 W0 B4 B5 ba oa m cc i u4 A5 n5 c5 xs p) : ops[2]? = some { dst := some 34, op := .move (.tmp 6), type := 3, pos := "law.go:42", after := #[], guard := none } := by rw [← c.hops]; rfl
theorem hMb_3 (c : CMb ops a0 W0 B4 B5 ba oa m cc i u4 A5 n5 c5 xs p) : ops[3]? = some { dst := some 35, op := .indexAddr 33 (.tmp 33) (.tmp 34), type := 0, pos := "law.go:42", after := #[{ on := 1, ground := .data }, { on := 2, ground := .data }], guard := none } := by rw [← c.hops]; rfl
theorem hMb_4 (c : CMb ops a0 W0 B4 B5 ba oa m cc i u4 A5 n5 c5 xs p) : ops[4]? = some { dst := some 36, op := .fieldAddr 40 (.tmp 35) 0, type := 0, pos := "law.go:42", after := #[{ on := 3, ground := .data }], guard := none } := by rw [← c.hops]; rfl
theorem hMb_5 (c : CMb ops a0 W0 B4 B5 ba oa m cc i u4 A5 n5 c5 xs p) : ops[5]? = some { dst := some 37, op := .load 9 (.tmp 36), type := 9, pos := "law.go:42", after := #[{ on := 4, ground := .data }], guard := none } := by rw [← c.hops]; rfl
theorem hMb_6 (c : CMb ops a0 W0 B4 B5 ba oa m cc i u4 A5 n5 c5 xs p) : ops[6]? = some { dst := some 38, op := .move (.tmp 0), type := 33, pos := "law.go:42", after := #[], guard := none } := by rw [← c.hops]; rfl
theorem hMb_7 (c : CMb ops a0 W0 B4 B5 ba oa m cc i u4 A5 n5 c5 xs p) : ops[7]? = some { dst := some 39, op := .move (.tmp 6), type := 3, pos := "law.go:42", after := #[], guard := none } := by rw [← c.hops]; rfl
theorem hMb_8 (c : CMb ops a0 W0 B4 B5 ba oa m cc i u4 A5 n5 c5 xs p) : ops[8]? = some { dst := some 40, op := .indexAddr 33 (.tmp 38) (.tmp 39), type := 0, pos := "law.go:42", after := #[{ on := 6, ground := .data }, { on := 7, ground := .data }], guard := none } := by rw [← c.hops]; rfl
theorem hMb_9 (c : CMb ops a0 W0 B4 B5 ba oa m cc i u4 A5 n5 c5 xs p) : ops[9]? = some { dst := some 41, op := .fieldAddr 40 (.tmp 40) 1, type := 0, pos := "law.go:42", after := #[{ on := 8, ground := .data }], guard := none } := by rw [← c.hops]; rfl
theorem hMb_10 (c : CMb ops a0 W0 B4 B5 ba oa m cc i u4 A5 n5 c5 xs p) : ops[10]? = some { dst := some 42, op := .load 9 (.tmp 41), type := 9, pos := "law.go:42", after := #[{ on := 9, ground := .data }], guard := none } := by rw [← c.hops]; rfl
theorem hMb_11 (c : CMb ops a0 W0 B4 B5 ba oa m cc i u4 A5 n5 c5 xs p) : ops[11]? = some { dst := some 43, op := .call { callee := .value (.func 10), args := #[.tmp 32, .tmp 37, .tmp 42], argTypes := #[24, 9, 9] }, type := 24, pos := "law.go:42", after := #[{ on := 0, ground := .data }, { on := 5, ground := .data }, { on := 10, ground := .data }], guard := none } := by rw [← c.hops]; rfl
theorem hMb_12 (c : CMb ops a0 W0 B4 B5 ba oa m cc i u4 A5 n5 c5 xs p) : ops[12]? = some { dst := some 44, op := .load 36 (.tmp 5), type := 36, pos := "law.go:42", after := #[], guard := none } := by rw [← c.hops]; rfl
theorem hMb_13 (c : CMb ops a0 W0 B4 B5 ba oa m cc i u4 A5 n5 c5 xs p) : ops[13]? = some { dst := some 45, op := .move (.tmp 0), type := 33, pos := "law.go:42", after := #[], guard := none } := by rw [← c.hops]; rfl
theorem hMb_14 (c : CMb ops a0 W0 B4 B5 ba oa m cc i u4 A5 n5 c5 xs p) : ops[14]? = some { dst := some 46, op := .move (.tmp 6), type := 3, pos := "law.go:42", after := #[], guard := none } := by rw [← c.hops]; rfl
theorem hMb_15 (c : CMb ops a0 W0 B4 B5 ba oa m cc i u4 A5 n5 c5 xs p) : ops[15]? = some { dst := some 47, op := .indexAddr 33 (.tmp 45) (.tmp 46), type := 0, pos := "law.go:42", after := #[{ on := 13, ground := .data }, { on := 14, ground := .data }], guard := none } := by rw [← c.hops]; rfl
theorem hMb_16 (c : CMb ops a0 W0 B4 B5 ba oa m cc i u4 A5 n5 c5 xs p) : ops[16]? = some { dst := some 48, op := .fieldAddr 40 (.tmp 47) 0, type := 0, pos := "law.go:42", after := #[{ on := 15, ground := .data }], guard := none } := by rw [← c.hops]; rfl
theorem hMb_17 (c : CMb ops a0 W0 B4 B5 ba oa m cc i u4 A5 n5 c5 xs p) : ops[17]? = some { dst := some 49, op := .load 9 (.tmp 48), type := 9, pos := "law.go:42", after := #[{ on := 16, ground := .data }], guard := none } := by rw [← c.hops]; rfl
theorem hMb_18 (c : CMb ops a0 W0 B4 B5 ba oa m cc i u4 A5 n5 c5 xs p) : ops[18]? = some { dst := some 50, op := .move (.tmp 0), type := 33, pos := "law.go:42", after := #[], guard := none } := by rw [← c.hops]; rfl
theorem hMb_19 (c : CMb ops a0 W0 B4 B5 ba oa m cc i u4 A5 n5 c5 xs p) : ops[19]? = some { dst := some 51, op := .move (.tmp 6), type := 3, pos := "law.go:42", after := #[], guard := none } := by rw [← c.hops]; rfl
theorem hMb_20 (c : CMb ops a0 W0 B4 B5 ba oa m cc i u4 A5 n5 c5 xs p) : ops[20]? = some { dst := some 52, op := .indexAddr 33 (.tmp 50) (.tmp 51), type := 0, pos := "law.go:42", after := #[{ on := 18, ground := .data }, { on := 19, ground := .data }], guard := none } := by rw [← c.hops]; rfl
theorem hMb_21 (c : CMb ops a0 W0 B4 B5 ba oa m cc i u4 A5 n5 c5 xs p) : ops[21]? = some { dst := some 53, op := .fieldAddr 40 (.tmp 52) 1, type := 0, pos := "law.go:42", after := #[{ on := 20, ground := .data }], guard := none } := by rw [← c.hops]; rfl
theorem hMb_22 (c : CMb ops a0 W0 B4 B5 ba oa m cc i u4 A5 n5 c5 xs p) : ops[22]? = some { dst := some 54, op := .load 9 (.tmp 53), type := 9, pos := "law.go:42", after := #[{ on := 21, ground := .data }], guard := none } := by rw [← c.hops]; rfl
theorem hMb_23 (c : CMb ops a0 W0 B4 B5 ba oa m cc i u4 A5 n5 c5 xs p) : ops[23]? = some { dst := some 55, op := .call { callee := .value (.func 45), args := #[.tmp 44, .tmp 49, .tmp 54], argTypes := #[36, 9, 9] }, type := 36, pos := "law.go:42", after := #[{ on := 12, ground := .data }, { on := 17, ground := .data }, { on := 22, ground := .data }, { on := 11, ground := .chain }], guard := none } := by rw [← c.hops]; rfl
theorem hMb_24 (c : CMb ops a0 W0 B4 B5 ba oa m cc i u4 A5 n5 c5 xs p) : ops[24]? = some { dst := none, op := .store 24 (.tmp 4) (.tmp 43), type := 0, pos := "law.go:42", after := #[{ on := 11, ground := .data }, { on := 23, ground := .chain }, { on := 0, ground := .phase }, { on := 1, ground := .phase }, { on := 2, ground := .phase }, { on := 3, ground := .phase }, { on := 4, ground := .phase }, { on := 5, ground := .phase }, { on := 6, ground := .phase }, { on := 7, ground := .phase }, { on := 8, ground := .phase }, { on := 9, ground := .phase }, { on := 10, ground := .phase }, { on := 11, ground := .phase }, { on := 12, ground := .textOnly .lateStores }, { on := 13, ground := .textOnly .lateStores }, { on := 14, ground := .textOnly .lateStores }, { on := 15, ground := .textOnly .lateStores }, { on := 16, ground := .textOnly .lateStores }, { on := 17, ground := .textOnly .lateStores }, { on := 18, ground := .textOnly .lateStores }, { on := 19, ground := .textOnly .lateStores }, { on := 20, ground := .textOnly .lateStores }, { on := 21, ground := .textOnly .lateStores }, { on := 22, ground := .textOnly .lateStores }, { on := 23, ground := .textOnly .lateStoresUnsure }], guard := none } := by rw [← c.hops]; rfl
theorem hMb_25 (c : CMb ops a0 W0 B4 B5 ba oa m cc i u4 A5 n5 c5 xs p) : ops[25]? = some { dst := none, op := .store 36 (.tmp 5) (.tmp 55), type := 0, pos := "law.go:42", after := #[{ on := 23, ground := .data }, { on := 24, ground := .chain }, { on := 0, ground := .phase }, { on := 1, ground := .phase }, { on := 2, ground := .phase }, { on := 3, ground := .phase }, { on := 4, ground := .phase }, { on := 5, ground := .phase }, { on := 6, ground := .phase }, { on := 7, ground := .phase }, { on := 8, ground := .phase }, { on := 9, ground := .phase }, { on := 10, ground := .phase }, { on := 11, ground := .phase }, { on := 12, ground := .phase }, { on := 13, ground := .phase }, { on := 14, ground := .phase }, { on := 15, ground := .phase }, { on := 16, ground := .phase }, { on := 17, ground := .phase }, { on := 18, ground := .phase }, { on := 19, ground := .phase }, { on := 20, ground := .phase }, { on := 21, ground := .phase }, { on := 22, ground := .phase }, { on := 23, ground := .phase }, { on := 24, ground := .phase }], guard := none } := by rw [← c.hops]; rfl
theorem huMb (c : CMb ops a0 W0 B4 B5 ba oa m cc i u4 A5 n5 c5 xs p) : dstB ops = true := by rw [← c.hops]; kernel_rfl
theorem hoMb (c : CMb ops a0 W0 B4 B5 ba oa m cc i u4 A5 n5 c5 xs p) : ordB ops = true := by rw [← c.hops]; kernel_rfl
theorem hnMb (c : CMb ops a0 W0 B4 B5 ba oa m cc i u4 A5 n5 c5 xs p) : ops.size = 26 := by rw [← c.hops]; rfl
theorem hdMb (c : CMb ops a0 W0 B4 B5 ba oa m cc i u4 A5 n5 c5 xs p) : dsts ops = [32, 33, 34, 35, 36, 37, 38, 39, 40, 41, 42, 43, 44, 45, 46, 47, 48, 49, 50, 51, 52, 53, 54, 55] := by rw [← c.hops]; rfl
theorem oMb_4 (c : CMb ops a0 W0 B4 B5 ba oa m cc i u4 A5 n5 c5 xs p) : oldB ops 4 = true := by rw [← c.hops]; kernel_rfl
theorem oMb_5 (c : CMb ops a0 W0 B4 B5 ba oa m cc i u4 A5 n5 c5 xs p) : oldB ops 5 = true := by rw [← c.hops]; kernel_rfl
theorem oMb_0 (c : CMb ops a0 W0 B4 B5 ba oa m cc i u4 A5 n5 c5 xs p) : oldB ops 0 = true := by rw [← c.hops]; kernel_rfl
theorem oMb_6 (c : CMb ops a0 W0 B4 B5 ba oa m cc i u4 A5 n5 c5 xs p) : oldB ops 6 = true := by rw [← c.hops]; kernel_rfl
theorem ivMb (c : CMb ops a0 W0 B4 B5 ba oa m cc i u4 A5 n5 c5 xs p) {l : Array Bool} {W W' : World} (h : IMb W0 B4 B5 ba oa m cc i u4 A5 n5 c5 xs p l W) (hn : Nx W W') {i_ : Nat} (hi : i_ ≠ 24 ∧ i_ ≠ 25) : IMb W0 B4 B5 ba oa m cc i u4 A5 n5 c5 xs p (l.setIfInBounds i_ true) W' := I2.step h Tb.nx Rt.nx hn hi
theorem nxMb (c : CMb ops a0 W0 B4 B5 ba oa m cc i u4 A5 n5 c5 xs p) {l : Array Bool} {W : World} (h : IMb W0 B4 B5 ba oa m cc i u4 A5 n5 c5 xs p l W) (h6 : l.getD 24 false = false) : Nx W0 W := h.nx h6
theorem sMb_0 (c : CMb ops a0 W0 B4 B5 ba oa m cc i u4 A5 n5 c5 xs p) : Stp Try.prog ops Q a0 (KMb W0 B4 B5 ba oa m cc i u4 A5 n5 c5 xs p) (IMb W0 B4 B5 ba oa m cc i u4 A5 n5 c5 xs p) 0 := stp_val (huMb c) (hMb_0 c) rfl (by rw [c.hz]; decide) fun l a W hF hn hd => ⟨want_none rfl, by
    have e4 : a.eval (.tmp 4) = .pointer (some ⟨B4, 0, none⟩) := (hF.old (oMb_4 c)).trans c.z4
    have m := c.b4.at0 (nxMb c hF.inv (hF.off hn (hMb_24 c) (by rfl)))
    refine ⟨.agg #[.pointer u4], W, ?_, rfl, Nx.refl W, (ivMb c hF.inv (Nx.refl W) (i_ := 0) (by decide))⟩
    show (execOp a.eval _).run Try.prog W = _
    simp only [execOp, e4]
    simp [go_sem, m]⟩
theorem sMb_1 (c : CMb ops a0 W0 B4 B5 ba oa m cc i u4 A5 n5 c5 xs p) : Stp Try.prog ops Q a0 (KMb W0 B4 B5 ba oa m cc i u4 A5 n5 c5 xs p) (IMb W0 B4 B5 ba oa m cc i u4 A5 n5 c5 xs p) 1 := stp_val (huMb c) (hMb_1 c) rfl (by rw [c.hz]; decide) fun l a W hF hn hd => ⟨want_none rfl, by
    have e0 : a.eval (.tmp 0) = .slice (some ⟨ba, oa, none⟩) m cc := (hF.old (oMb_0 c)).trans c.z0
    exact ⟨.slice (some ⟨ba, oa, none⟩) m cc, W, by show Result.ok (Next.value (a.eval _)) W = _; rw [e0], rfl, Nx.refl W, (ivMb c hF.inv (Nx.refl W) (i_ := 1) (by decide))⟩⟩
theorem sMb_2 (c : CMb ops a0 W0 B4 B5 ba oa m cc i u4 A5 n5 c5 xs p) : Stp Try.prog ops Q a0 (KMb W0 B4 B5 ba oa m cc i u4 A5 n5 c5 xs p) (IMb W0 B4 B5 ba oa m cc i u4 A5 n5 c5 xs p) 2 := stp_val (huMb c) (hMb_2 c) rfl (by rw [c.hz]; decide) fun l a W hF hn hd => ⟨want_none rfl, by
    have e6 : a.eval (.tmp 6) = .int .i64 (i : Int) := (hF.old (oMb_6 c)).trans c.z6
    exact ⟨.int .i64 (i : Int), W, by show Result.ok (Next.value (a.eval _)) W = _; rw [e6], rfl, Nx.refl W, (ivMb c hF.inv (Nx.refl W) (i_ := 2) (by decide))⟩⟩
theorem sMb_3 (c : CMb ops a0 W0 B4 B5 ba oa m cc i u4 A5 n5 c5 xs p) : Stp Try.prog ops Q a0 (KMb W0 B4 B5 ba oa m cc i u4 A5 n5 c5 xs p) (IMb W0 B4 B5 ba oa m cc i u4 A5 n5 c5 xs p) 3 := stp_val (huMb c) (hMb_3 c) rfl (by rw [c.hz]; decide) fun l a W hF hn hd => ⟨want_none rfl, by
    have e33 : a.eval (.tmp 33) = .slice (some ⟨ba, oa, none⟩) m cc := by obtain ⟨v, e, p⟩ := hF.get (hMb_1 c) rfl (hd.at 1 (by rfl)); exact e.trans p
    have e34 : a.eval (.tmp 34) = .int .i64 (i : Int) := by obtain ⟨v, e, p⟩ := hF.get (hMb_2 c) rfl (hd.at 2 (by rfl)); exact e.trans p
    have x1 := c.i1; have x2 : (0 : Int) ≤ (i : Int) := Int.natCast_nonneg i; have x3 : ((i : Int) < (m : Int)) := by omega
    refine ⟨.pointer (some ⟨ba, oa + i * 3, none⟩), W, ?_, rfl, Nx.refl W, (ivMb c hF.inv (Nx.refl W) (i_ := 3) (by decide))⟩
    show (execOp a.eval _).run Try.prog W = _
    simp only [execOp, e33, e34]
    simp [go_sem, x2, x3]⟩
theorem sMb_4 (c : CMb ops a0 W0 B4 B5 ba oa m cc i u4 A5 n5 c5 xs p) : Stp Try.prog ops Q a0 (KMb W0 B4 B5 ba oa m cc i u4 A5 n5 c5 xs p) (IMb W0 B4 B5 ba oa m cc i u4 A5 n5 c5 xs p) 4 := stp_val (huMb c) (hMb_4 c) rfl (by rw [c.hz]; decide) fun l a W hF hn hd => ⟨want_none rfl, by
    have e35 : a.eval (.tmp 35) = .pointer (some ⟨ba, oa + i * 3, none⟩) := by obtain ⟨v, e, p⟩ := hF.get (hMb_3 c) rfl (hd.at 3 (by rfl)); exact e.trans p
    refine ⟨.pointer (some ⟨ba, oa + i * 3, none⟩), W, ?_, rfl, Nx.refl W, (ivMb c hF.inv (Nx.refl W) (i_ := 4) (by decide))⟩
    show (execOp a.eval _).run Try.prog W = _
    simp only [execOp, e35]
    simp [go_sem]⟩
theorem sMb_5 (c : CMb ops a0 W0 B4 B5 ba oa m cc i u4 A5 n5 c5 xs p) : Stp Try.prog ops Q a0 (KMb W0 B4 B5 ba oa m cc i u4 A5 n5 c5 xs p) (IMb W0 B4 B5 ba oa m cc i u4 A5 n5 c5 xs p) 5 := stp_val (huMb c) (hMb_5 c) rfl (by rw [c.hz]; decide) fun l a W hF hn hd => ⟨want_none rfl, by
    have e36 : a.eval (.tmp 36) = .pointer (some ⟨ba, oa + i * 3, none⟩) := by obtain ⟨v, e, p⟩ := hF.get (hMb_4 c) rfl (hd.at 4 (by rfl)); exact e.trans p
    have m := cell_nx c.k0 (nxMb c hF.inv (hF.off hn (hMb_24 c) (by rfl)))
    refine ⟨.string (S p.k), W, ?_, rfl, Nx.refl W, (ivMb c hF.inv (Nx.refl W) (i_ := 5) (by decide))⟩
    show (execOp a.eval _).run Try.prog W = _
    simp only [execOp, e36]
    simp [go_sem, m]⟩
theorem sMb_6 (c : CMb ops a0 W0 B4 B5 ba oa m cc i u4 A5 n5 c5 xs p) : Stp Try.prog ops Q a0 (KMb W0 B4 B5 ba oa m cc i u4 A5 n5 c5 xs p) (IMb W0 B4 B5 ba oa m cc i u4 A5 n5 c5 xs p) 6 := stp_val (huMb c) (hMb_6 c) rfl (by rw [c.hz]; decide) fun l a W hF hn hd => ⟨want_none rfl, by
    have e0 : a.eval (.tmp 0) = .slice (some ⟨ba, oa, none⟩) m cc := (hF.old (oMb_0 c)).trans c.z0
    exact ⟨.slice (some ⟨ba, oa, none⟩) m cc, W, by show Result.ok (Next.value (a.eval _)) W = _; rw [e0], rfl, Nx.refl W, (ivMb c hF.inv (Nx.refl W) (i_ := 6) (by decide))⟩⟩
theorem sMb_7 (c : CMb ops a0 W0 B4 B5 ba oa m cc i u4 A5 n5 c5 xs p) : Stp Try.prog ops Q a0 (KMb W0 B4 B5 ba oa m cc i u4 A5 n5 c5 xs p) (IMb W0 B4 B5 ba oa m cc i u4 A5 n5 c5 xs p) 7 := stp_val (huMb c) (hMb_7 c) rfl (by rw [c.hz]; decide) fun l a W hF hn hd => ⟨want_none rfl, by
    have e6 : a.eval (.tmp 6) = .int .i64 (i : Int) := (hF.old (oMb_6 c)).trans c.z6
    exact ⟨.int .i64 (i : Int), W, by show Result.ok (Next.value (a.eval _)) W = _; rw [e6], rfl, Nx.refl W, (ivMb c hF.inv (Nx.refl W) (i_ := 7) (by decide))⟩⟩
theorem sMb_8 (c : CMb ops a0 W0 B4 B5 ba oa m cc i u4 A5 n5 c5 xs p) : Stp Try.prog ops Q a0 (KMb W0 B4 B5 ba oa m cc i u4 A5 n5 c5 xs p) (IMb W0 B4 B5 ba oa m cc i u4 A5 n5 c5 xs p) 8 := stp_val (huMb c) (hMb_8 c) rfl (by rw [c.hz]; decide) fun l a W hF hn hd => ⟨want_none rfl, by
    have e38 : a.eval (.tmp 38) = .slice (some ⟨ba, oa, none⟩) m cc := by obtain ⟨v, e, p⟩ := hF.get (hMb_6 c) rfl (hd.at 6 (by rfl)); exact e.trans p
    have e39 : a.eval (.tmp 39) = .int .i64 (i : Int) := by obtain ⟨v, e, p⟩ := hF.get (hMb_7 c) rfl (hd.at 7 (by rfl)); exact e.trans p
    have x1 := c.i1; have x2 : (0 : Int) ≤ (i : Int) := Int.natCast_nonneg i; have x3 : ((i : Int) < (m : Int)) := by omega
    refine ⟨.pointer (some ⟨ba, oa + i * 3, none⟩), W, ?_, rfl, Nx.refl W, (ivMb c hF.inv (Nx.refl W) (i_ := 8) (by decide))⟩
    show (execOp a.eval _).run Try.prog W = _
    simp only [execOp, e38, e39]
    simp [go_sem, x2, x3]⟩
theorem sMb_9 (c : CMb ops a0 W0 B4 B5 ba oa m cc i u4 A5 n5 c5 xs p) : Stp Try.prog ops Q a0 (KMb W0 B4 B5 ba oa m cc i u4 A5 n5 c5 xs p) (IMb W0 B4 B5 ba oa m cc i u4 A5 n5 c5 xs p) 9 := stp_val (huMb c) (hMb_9 c) rfl (by rw [c.hz]; decide) fun l a W hF hn hd => ⟨want_none rfl, by
    have e40 : a.eval (.tmp 40) = .pointer (some ⟨ba, oa + i * 3, none⟩) := by obtain ⟨v, e, p⟩ := hF.get (hMb_8 c) rfl (hd.at 8 (by rfl)); exact e.trans p
    refine ⟨.pointer (some ⟨ba, oa + i * 3 + 1, none⟩), W, ?_, rfl, Nx.refl W, (ivMb c hF.inv (Nx.refl W) (i_ := 9) (by decide))⟩
    show (execOp a.eval _).run Try.prog W = _
    simp only [execOp, e40]
    simp [go_sem]⟩
theorem sMb_10 (c : CMb ops a0 W0 B4 B5 ba oa m cc i u4 A5 n5 c5 xs p) : Stp Try.prog ops Q a0 (KMb W0 B4 B5 ba oa m cc i u4 A5 n5 c5 xs p) (IMb W0 B4 B5 ba oa m cc i u4 A5 n5 c5 xs p) 10 := stp_val (huMb c) (hMb_10 c) rfl (by rw [c.hz]; decide) fun l a W hF hn hd => ⟨want_none rfl, by
    have e41 : a.eval (.tmp 41) = .pointer (some ⟨ba, oa + i * 3 + 1, none⟩) := by obtain ⟨v, e, p⟩ := hF.get (hMb_9 c) rfl (hd.at 9 (by rfl)); exact e.trans p
    have m := cell_nx c.k1 (nxMb c hF.inv (hF.off hn (hMb_24 c) (by rfl)))
    refine ⟨.string (S p.v), W, ?_, rfl, Nx.refl W, (ivMb c hF.inv (Nx.refl W) (i_ := 10) (by decide))⟩
    show (execOp a.eval _).run Try.prog W = _
    simp only [execOp, e41]
    simp [go_sem, m]⟩
theorem sMb_11 (c : CMb ops a0 W0 B4 B5 ba oa m cc i u4 A5 n5 c5 xs p) : Stp Try.prog ops Q a0 (KMb W0 B4 B5 ba oa m cc i u4 A5 n5 c5 xs p) (IMb W0 B4 B5 ba oa m cc i u4 A5 n5 c5 xs p) 11 := stp_call (huMb c) (hMb_11 c) rfl (by rw [c.hz]; decide) fun l a W hF hn hd => ⟨want_none rfl, by
    have e32 : a.eval (.tmp 32) = .agg #[.pointer u4] := by obtain ⟨v, e, p⟩ := hF.get (hMb_0 c) rfl (hd.at 0 (by rfl)); exact e.trans p
    have e37 : a.eval (.tmp 37) = .string (S p.k) := by obtain ⟨v, e, p⟩ := hF.get (hMb_5 c) rfl (hd.at 5 (by rfl)); exact e.trans p
    have e42 : a.eval (.tmp 42) = .string (S p.v) := by obtain ⟨v, e, p⟩ := hF.get (hMb_10 c) rfl (hd.at 10 (by rfl)); exact e.trans p
    refine ⟨10, #[.agg #[.pointer u4], .string (S p.k), .string (S p.v)], _, run_enter rfl (by simp only [List.map_toArray, List.map_cons, List.map_nil, e32, e37, e42]) (eval_func _ _) (enters_of Try.func10 (by kernel_rfl) rfl), tput_any W _ xs p.k p.v (c.t4.nx (nxMb c hF.inv (hF.off hn (hMb_24 c) (by rfl)))) c.xsn c.j1 c.j2, ?_⟩
    rintro e W' ⟨r, rfl, hrow, hn2⟩; exact ⟨_, rfl, hrow, hn2, (ivMb c hF.inv hn2 (i_ := 11) (by decide))⟩⟩
theorem sMb_12 (c : CMb ops a0 W0 B4 B5 ba oa m cc i u4 A5 n5 c5 xs p) : Stp Try.prog ops Q a0 (KMb W0 B4 B5 ba oa m cc i u4 A5 n5 c5 xs p) (IMb W0 B4 B5 ba oa m cc i u4 A5 n5 c5 xs p) 12 := stp_val (huMb c) (hMb_12 c) rfl (by rw [c.hz]; decide) fun l a W hF hn hd => ⟨want_none rfl, by
    have e5 : a.eval (.tmp 5) = .pointer (some ⟨B5, 0, none⟩) := (hF.old (oMb_5 c)).trans c.z5
    have m := c.b5.at0 (nxMb c hF.inv (hF.off (hF.off hn (hMb_23 c) (by rfl)) (hMb_24 c) (by rfl)))
    refine ⟨.agg #[.slice A5 n5 c5], W, ?_, rfl, Nx.refl W, (ivMb c hF.inv (Nx.refl W) (i_ := 12) (by decide))⟩
    show (execOp a.eval _).run Try.prog W = _
    simp only [execOp, e5]
    simp [go_sem, m]⟩
theorem sMb_13 (c : CMb ops a0 W0 B4 B5 ba oa m cc i u4 A5 n5 c5 xs p) : Stp Try.prog ops Q a0 (KMb W0 B4 B5 ba oa m cc i u4 A5 n5 c5 xs p) (IMb W0 B4 B5 ba oa m cc i u4 A5 n5 c5 xs p) 13 := stp_val (huMb c) (hMb_13 c) rfl (by rw [c.hz]; decide) fun l a W hF hn hd => ⟨want_none rfl, by
    have e0 : a.eval (.tmp 0) = .slice (some ⟨ba, oa, none⟩) m cc := (hF.old (oMb_0 c)).trans c.z0
    exact ⟨.slice (some ⟨ba, oa, none⟩) m cc, W, by show Result.ok (Next.value (a.eval _)) W = _; rw [e0], rfl, Nx.refl W, (ivMb c hF.inv (Nx.refl W) (i_ := 13) (by decide))⟩⟩
theorem sMb_14 (c : CMb ops a0 W0 B4 B5 ba oa m cc i u4 A5 n5 c5 xs p) : Stp Try.prog ops Q a0 (KMb W0 B4 B5 ba oa m cc i u4 A5 n5 c5 xs p) (IMb W0 B4 B5 ba oa m cc i u4 A5 n5 c5 xs p) 14 := stp_val (huMb c) (hMb_14 c) rfl (by rw [c.hz]; decide) fun l a W hF hn hd => ⟨want_none rfl, by
    have e6 : a.eval (.tmp 6) = .int .i64 (i : Int) := (hF.old (oMb_6 c)).trans c.z6
    exact ⟨.int .i64 (i : Int), W, by show Result.ok (Next.value (a.eval _)) W = _; rw [e6], rfl, Nx.refl W, (ivMb c hF.inv (Nx.refl W) (i_ := 14) (by decide))⟩⟩
theorem sMb_15 (c : CMb ops a0 W0 B4 B5 ba oa m cc i u4 A5 n5 c5 xs p) : Stp Try.prog ops Q a0 (KMb W0 B4 B5 ba oa m cc i u4 A5 n5 c5 xs p) (IMb W0 B4 B5 ba oa m cc i u4 A5 n5 c5 xs p) 15 := stp_val (huMb c) (hMb_15 c) rfl (by rw [c.hz]; decide) fun l a W hF hn hd => ⟨want_none rfl, by
    have e45 : a.eval (.tmp 45) = .slice (some ⟨ba, oa, none⟩) m cc := by obtain ⟨v, e, p⟩ := hF.get (hMb_13 c) rfl (hd.at 13 (by rfl)); exact e.trans p
    have e46 : a.eval (.tmp 46) = .int .i64 (i : Int) := by obtain ⟨v, e, p⟩ := hF.get (hMb_14 c) rfl (hd.at 14 (by rfl)); exact e.trans p
    have x1 := c.i1; have x2 : (0 : Int) ≤ (i : Int) := Int.natCast_nonneg i; have x3 : ((i : Int) < (m : Int)) := by omega
    refine ⟨.pointer (some ⟨ba, oa + i * 3, none⟩), W, ?_, rfl, Nx.refl W, (ivMb c hF.inv (Nx.refl W) (i_ := 15) (by decide))⟩
    show (execOp a.eval _).run Try.prog W = _
    simp only [execOp, e45, e46]
    simp [go_sem, x2, x3]⟩
theorem sMb_16 (c : CMb ops a0 W0 B4 B5 ba oa m cc i u4 A5 n5 c5 xs p) : Stp Try.prog ops Q a0 (KMb W0 B4 B5 ba oa m cc i u4 A5 n5 c5 xs p) (IMb W0 B4 B5 ba oa m cc i u4 A5 n5 c5 xs p) 16 := stp_val (huMb c) (hMb_16 c) rfl (by rw [c.hz]; decide) fun l a W hF hn hd => ⟨want_none rfl, by
    have e47 : a.eval (.tmp 47) = .pointer (some ⟨ba, oa + i * 3, none⟩) := by obtain ⟨v, e, p⟩ := hF.get (hMb_15 c) rfl (hd.at 15 (by rfl)); exact e.trans p
    refine ⟨.pointer (some ⟨ba, oa + i * 3, none⟩), W, ?_, rfl, Nx.refl W, (ivMb c hF.inv (Nx.refl W) (i_ := 16) (by decide))⟩
    show (execOp a.eval _).run Try.prog W = _
    simp only [execOp, e47]
    simp [go_sem]⟩
theorem sMb_17 (c : CMb ops a0 W0 B4 B5 ba oa m cc i u4 A5 n5 c5 xs p) : Stp Try.prog ops Q a0 (KMb W0 B4 B5 ba oa m cc i u4 A5 n5 c5 xs p) (IMb W0 B4 B5 ba oa m cc i u4 A5 n5 c5 xs p) 17 := stp_val (huMb c) (hMb_17 c) rfl (by rw [c.hz]; decide) fun l a W hF hn hd => ⟨want_none rfl, by
    have e48 : a.eval (.tmp 48) = .pointer (some ⟨ba, oa + i * 3, none⟩) := by obtain ⟨v, e, p⟩ := hF.get (hMb_16 c) rfl (hd.at 16 (by rfl)); exact e.trans p
    have m := cell_nx c.k0 (nxMb c hF.inv (hF.off (hF.off hn (hMb_23 c) (by rfl)) (hMb_24 c) (by rfl)))
    refine ⟨.string (S p.k), W, ?_, rfl, Nx.refl W, (ivMb c hF.inv (Nx.refl W) (i_ := 17) (by decide))⟩
    show (execOp a.eval _).run Try.prog W = _
    simp only [execOp, e48]
    simp [go_sem, m]⟩
theorem sMb_18 (c : CMb ops a0 W0 B4 B5 ba oa m cc i u4 A5 n5 c5 xs p) : Stp Try.prog ops Q a0 (KMb W0 B4 B5 ba oa m cc i u4 A5 n5 c5 xs p) (IMb W0 B4 B5 ba oa m cc i u4 A5 n5 c5 xs p) 18 := stp_val (huMb c) (hMb_18 c) rfl (by rw [c.hz]; decide) fun l a W hF hn hd => ⟨want_none rfl, by
    have e0 : a.eval (.tmp 0) = .slice (some ⟨ba, oa, none⟩) m cc := (hF.old (oMb_0 c)).trans c.z0
    exact ⟨.slice (some ⟨ba, oa, none⟩) m cc, W, by show Result.ok (Next.value (a.eval _)) W = _; rw [e0], rfl, Nx.refl W, (ivMb c hF.inv (Nx.refl W) (i_ := 18) (by decide))⟩⟩
theorem sMb_19 (c : CMb ops a0 W0 B4 B5 ba oa m cc i u4 A5 n5 c5 xs p) : Stp Try.prog ops Q a0 (KMb W0 B4 B5 ba oa m cc i u4 A5 n5 c5 xs p) (IMb W0 B4 B5 ba oa m cc i u4 A5 n5 c5 xs p) 19 := stp_val (huMb c) (hMb_19 c) rfl (by rw [c.hz]; decide) fun l a W hF hn hd => ⟨want_none rfl, by
    have e6 : a.eval (.tmp 6) = .int .i64 (i : Int) := (hF.old (oMb_6 c)).trans c.z6
    exact ⟨.int .i64 (i : Int), W, by show Result.ok (Next.value (a.eval _)) W = _; rw [e6], rfl, Nx.refl W, (ivMb c hF.inv (Nx.refl W) (i_ := 19) (by decide))⟩⟩
theorem sMb_20 (c : CMb ops a0 W0 B4 B5 ba oa m cc i u4 A5 n5 c5 xs p) : Stp Try.prog ops Q a0 (KMb W0 B4 B5 ba oa m cc i u4 A5 n5 c5 xs p) (IMb W0 B4 B5 ba oa m cc i u4 A5 n5 c5 xs p) 20 := stp_val (huMb c) (hMb_20 c) rfl (by rw [c.hz]; decide) fun l a W hF hn hd => ⟨want_none rfl, by
    have e50 : a.eval (.tmp 50) = .slice (some ⟨ba, oa, none⟩) m cc := by obtain ⟨v, e, p⟩ := hF.get (hMb_18 c) rfl (hd.at 18 (by rfl)); exact e.trans p
    have e51 : a.eval (.tmp 51) = .int .i64 (i : Int) := by obtain ⟨v, e, p⟩ := hF.get (hMb_19 c) rfl (hd.at 19 (by rfl)); exact e.trans p
    have x1 := c.i1; have x2 : (0 : Int) ≤ (i : Int) := Int.natCast_nonneg i; have x3 : ((i : Int) < (m : Int)) := by omega
    refine ⟨.pointer (some ⟨ba, oa + i * 3, none⟩), W, ?_, rfl, Nx.refl W, (ivMb c hF.inv (Nx.refl W) (i_ := 20) (by decide))⟩
    show (execOp a.eval _).run Try.prog W = _
    simp only [execOp, e50, e51]
    simp [go_sem, x2, x3]⟩
theorem sMb_21 (c : CMb ops a0 W0 B4 B5 ba oa m cc i u4 A5 n5 c5 xs p) : Stp Try.prog ops Q a0 (KMb W0 B4 B5 ba oa m cc i u4 A5 n5 c5 xs p) (IMb W0 B4 B5 ba oa m cc i u4 A5 n5 c5 xs p) 21 := stp_val (huMb c) (hMb_21 c) rfl (by rw [c.hz]; decide) fun l a W hF hn hd => ⟨want_none rfl, by
    have e52 : a.eval (.tmp 52) = .pointer (some ⟨ba, oa + i * 3, none⟩) := by obtain ⟨v, e, p⟩ := hF.get (hMb_20 c) rfl (hd.at 20 (by rfl)); exact e.trans p
    refine ⟨.pointer (some ⟨ba, oa + i * 3 + 1, none⟩), W, ?_, rfl, Nx.refl W, (ivMb c hF.inv (Nx.refl W) (i_ := 21) (by decide))⟩
    show (execOp a.eval _).run Try.prog W = _
    simp only [execOp, e52]
    simp [go_sem]⟩
theorem sMb_22 (c : CMb ops a0 W0 B4 B5 ba oa m cc i u4 A5 n5 c5 xs p) : Stp Try.prog ops Q a0 (KMb W0 B4 B5 ba oa m cc i u4 A5 n5 c5 xs p) (IMb W0 B4 B5 ba oa m cc i u4 A5 n5 c5 xs p) 22 := stp_val (huMb c) (hMb_22 c) rfl (by rw [c.hz]; decide) fun l a W hF hn hd => ⟨want_none rfl, by
    have e53 : a.eval (.tmp 53) = .pointer (some ⟨ba, oa + i * 3 + 1, none⟩) := by obtain ⟨v, e, p⟩ := hF.get (hMb_21 c) rfl (hd.at 21 (by rfl)); exact e.trans p
    have m := cell_nx c.k1 (nxMb c hF.inv (hF.off (hF.off hn (hMb_23 c) (by rfl)) (hMb_24 c) (by rfl)))
    refine ⟨.string (S p.v), W, ?_, rfl, Nx.refl W, (ivMb c hF.inv (Nx.refl W) (i_ := 22) (by decide))⟩
    show (execOp a.eval _).run Try.prog W = _
    simp only [execOp, e53]
    simp [go_sem, m]⟩
theorem sMb_23 (c : CMb ops a0 W0 B4 B5 ba oa m cc i u4 A5 n5 c5 xs p) : Stp Try.prog ops Q a0 (KMb W0 B4 B5 ba oa m cc i u4 A5 n5 c5 xs p) (IMb W0 B4 B5 ba oa m cc i u4 A5 n5 c5 xs p) 23 := stp_call (huMb c) (hMb_23 c) rfl (by rw [c.hz]; decide) fun l a W hF hn hd => ⟨want_none rfl, by
    have e44 : a.eval (.tmp 44) = .agg #[.slice A5 n5 c5] := by obtain ⟨v, e, p⟩ := hF.get (hMb_12 c) rfl (hd.at 12 (by rfl)); exact e.trans p
    have e49 : a.eval (.tmp 49) = .string (S p.k) := by obtain ⟨v, e, p⟩ := hF.get (hMb_17 c) rfl (hd.at 17 (by rfl)); exact e.trans p
    have e54 : a.eval (.tmp 54) = .string (S p.v) := by obtain ⟨v, e, p⟩ := hF.get (hMb_22 c) rfl (hd.at 22 (by rfl)); exact e.trans p
    refine ⟨45, #[.agg #[.slice A5 n5 c5], .string (S p.k), .string (S p.v)], _, run_enter rfl (by simp only [List.map_toArray, List.map_cons, List.map_nil, e44, e49, e54]) (eval_func _ _) (enters_of Try.func45 (by kernel_rfl) rfl), rput_any W _ xs p.k p.v (c.t5.nx (nxMb c hF.inv (hF.off hn (hMb_24 c) (by rfl)))) (Nat.le_of_lt c.xsn), ?_⟩
    rintro e W' ⟨r, rfl, hrow, hn2⟩; exact ⟨_, rfl, hrow, hn2, (ivMb c hF.inv hn2 (i_ := 23) (by decide))⟩⟩
theorem sMb_24 (c : CMb ops a0 W0 B4 B5 ba oa m cc i u4 A5 n5 c5 xs p) : Stp Try.prog ops Q a0 (KMb W0 B4 B5 ba oa m cc i u4 A5 n5 c5 xs p) (IMb W0 B4 B5 ba oa m cc i u4 A5 n5 c5 xs p) 24 := stp_skip (hMb_24 c) rfl fun l a W hF hn hd => ⟨want_none rfl, by
    have e4 : a.eval (.tmp 4) = .pointer (some ⟨B4, 0, none⟩) := (hF.old (oMb_4 c)).trans c.z4
    obtain ⟨v43, e43, p43⟩ := hF.get (hMb_11 c) rfl (hd.at 11 (by rfl))
    have p43 : Tb W v43 (ins p.k p.v xs) := p43
    have h2 := hF.off hn (hMb_25 c) (by rfl)
    have nx := hF.inv.nx hn
    obtain ⟨u, rfl⟩ := Tb.agg p43
    have hb := c.b4.nx nx
    have m := c.b4.at0 nx
    have f := hb.frozen 0
    refine ⟨W.setCell ⟨B4, 0, none⟩ (.pointer u), ?_, fun j v hne hl => match j, hne, hl with | 0, hne, hl => fun h => h | 1, hne, hl => fun h => h | 2, hne, hl => fun h => h | 3, hne, hl => fun h => h | 4, hne, hl => fun h => h | 5, hne, hl => fun h => h | 6, hne, hl => fun h => h | 7, hne, hl => fun h => h | 8, hne, hl => fun h => h | 9, hne, hl => fun h => h | 10, hne, hl => fun h => h | 11, hne, hl => fun h => Tb.store h hb (by decide) 0 _ | 12, hne, hl => fun h => h | 13, hne, hl => fun h => h | 14, hne, hl => fun h => h | 15, hne, hl => fun h => h | 16, hne, hl => fun h => h | 17, hne, hl => fun h => h | 18, hne, hl => fun h => h | 19, hne, hl => fun h => h | 20, hne, hl => fun h => h | 21, hne, hl => fun h => h | 22, hne, hl => fun h => h | 23, hne, hl => fun h => Rt.store h hb (fun s h => by cases h) _ | 24, hne, hl => fun h => absurd rfl hne | 25, hne, hl => fun h => h | (k + 26), _, _ => fun _ => trivial, hF.inv.putB c.b4 c.ne (by decide) (hF.lt (hMb_24 c)) hn h2 (p43.store hb (by decide) 0 _)⟩
    show (execOp a.eval _).run Try.prog W = _
    simp only [execOp, e4, e43]
    simp [go_sem, m, f]⟩
theorem sMb_25 (c : CMb ops a0 W0 B4 B5 ba oa m cc i u4 A5 n5 c5 xs p) : Stp Try.prog ops Q a0 (KMb W0 B4 B5 ba oa m cc i u4 A5 n5 c5 xs p) (IMb W0 B4 B5 ba oa m cc i u4 A5 n5 c5 xs p) 25 := stp_skip (hMb_25 c) rfl fun l a W hF hn hd => ⟨want_none rfl, by
    have e5 : a.eval (.tmp 5) = .pointer (some ⟨B5, 0, none⟩) := (hF.old (oMb_5 c)).trans c.z5
    obtain ⟨v55, e55, p55⟩ := hF.get (hMb_23 c) rfl (hd.at 23 (by rfl))
    have p55 : Rt W v55 (ins p.k p.v xs) := p55
    have h1 := hd.at 24 (by rfl)
    obtain ⟨A1, n1, c1, rfl⟩ := Rt.agg p55
    have hb := hF.inv.c0 hn
    have m : W.cell? ⟨B5, 0, none⟩ = some _ := hb.at0 (Nx.refl W)
    have f := hb.frozen 0
    refine ⟨W.setCell ⟨B5, 0, none⟩ (.slice A1 n1 c1), ?_, fun j v hne hl => match j, hne, hl with | 0, hne, hl => fun h => h | 1, hne, hl => fun h => h | 2, hne, hl => fun h => h | 3, hne, hl => fun h => h | 4, hne, hl => fun h => h | 5, hne, hl => fun h => h | 6, hne, hl => fun h => h | 7, hne, hl => fun h => h | 8, hne, hl => fun h => h | 9, hne, hl => fun h => h | 10, hne, hl => fun h => h | 11, hne, hl => fun h => Tb.store h hb (by decide) 0 _ | 12, hne, hl => fun h => h | 13, hne, hl => fun h => h | 14, hne, hl => fun h => h | 15, hne, hl => fun h => h | 16, hne, hl => fun h => h | 17, hne, hl => fun h => h | 18, hne, hl => fun h => h | 19, hne, hl => fun h => h | 20, hne, hl => fun h => h | 21, hne, hl => fun h => h | 22, hne, hl => fun h => h | 23, hne, hl => fun h => Rt.store h hb (fun s h => by cases h) _ | 24, hne, hl => fun h => h | 25, hne, hl => fun h => absurd rfl hne | (k + 26), _, _ => fun _ => trivial, hF.inv.putC c.ne (by decide) (hF.lt (hMb_25 c)) h1 hn (fun v h => Tb.store h hb (by decide) 0 _) (p55.store hb (fun s h => by cases h) _)⟩
    show (execOp a.eval _).run Try.prog W = _
    simp only [execOp, e5, e55]
    simp [go_sem, m, f]⟩
theorem rgMb (c : CMb ops a0 W0 B4 B5 ba oa m cc i u4 A5 n5 c5 xs p) {id : Nat} (fin : ∀ (x32 x33 x34 x35 x36 x37 x38 x39 x40 x41 x42 x43 x44 x45 x46 x47 x48 x49 x50 x51 x52 x53 x54 x55 : Value) (W : World), Chd (fun k => k = B4 ∨ k = B5) W0 W → (∃ u, BlkIs W B4 24 #[u] ∧ Tb W (.agg #[u]) (ins p.k p.v xs)) → (∃ u, BlkIs W B5 36 #[u] ∧ Rt W (.agg #[u]) (ins p.k p.v xs)) → Q .normal { tmps := ((((((((((((((((((((((((a0.tmps.setIfInBounds 32 x32).setIfInBounds 33 x33).setIfInBounds 34 x34).setIfInBounds 35 x35).setIfInBounds 36 x36).setIfInBounds 37 x37).setIfInBounds 38 x38).setIfInBounds 39 x39).setIfInBounds 40 x40).setIfInBounds 41 x41).setIfInBounds 42 x42).setIfInBounds 43 x43).setIfInBounds 44 x44).setIfInBounds 45 x45).setIfInBounds 46 x46).setIfInBounds 47 x47).setIfInBounds 48 x48).setIfInBounds 49 x49).setIfInBounds 50 x50).setIfInBounds 51 x51).setIfInBounds 52 x52).setIfInBounds 53 x53).setIfInBounds 54 x54).setIfInBounds 55 x55), defers := a0.defers } W) : (Code.region id ops true).wp Try.prog Q a0 W0 := by
  refine flows (K := (KMb W0 B4 B5 ba oa m cc i u4 A5 n5 c5 xs p)) (Inv := (IMb W0 B4 B5 ba oa m cc i u4 A5 n5 c5 xs p)) (by kernel_rfl) (hoMb c) (hnMb c) (I2.start c.b4 c.b5) ⟨⟨⟨⟨⟨⟨⟨⟨⟨⟨⟨⟨⟨⟨⟨⟨⟨⟨⟨⟨⟨⟨⟨⟨⟨⟨trivial, sMb_0 c⟩, sMb_1 c⟩, sMb_2 c⟩, sMb_3 c⟩, sMb_4 c⟩, sMb_5 c⟩, sMb_6 c⟩, sMb_7 c⟩, sMb_8 c⟩, sMb_9 c⟩, sMb_10 c⟩, sMb_11 c⟩, sMb_12 c⟩, sMb_13 c⟩, sMb_14 c⟩, sMb_15 c⟩, sMb_16 c⟩, sMb_17 c⟩, sMb_18 c⟩, sMb_19 c⟩, sMb_20 c⟩, sMb_21 c⟩, sMb_22 c⟩, sMb_23 c⟩, sMb_24 c⟩, sMb_25 c⟩ fun l a W hF hl => ?_
  have f := hF.form
  rw [hdMb c] at f
  simp only [List.foldl] at f
  rw [f]
  exact fin _ _ _ _ _ _ _ _ _ _ _ _ _ _ _ _ _ _ _ _ _ _ _ _ W  hF.inv.chd (hF.inv.b (hl 24 (by decide))) (hF.inv.c (hl 25 (by decide)))
theorem rgMbL {t0_ t1_ t2_ t3_ t4_ t5_ t6_ t7_ t8_ t9_ t10_ t11_ t12_ t13_ t14_ t15_ t16_ t17_ t18_ t19_ t20_ t21_ t22_ t23_ t24_ t25_ t26_ t27_ t28_ t29_ t30_ t31_ t32_ t33_ t34_ t35_ t36_ t37_ t38_ t39_ t40_ t41_ t42_ t43_ t44_ t45_ t46_ t47_ t48_ t49_ t50_ t51_ t52_ t53_ t54_ t55_ t56_ t57_ : Value} {d_ : List Deferred} (c : CMb ops { tmps := #[t0_, t1_, t2_, t3_, t4_, t5_, t6_, t7_, t8_, t9_, t10_, t11_, t12_, t13_, t14_, t15_, t16_, t17_, t18_, t19_, t20_, t21_, t22_, t23_, t24_, t25_, t26_, t27_, t28_, t29_, t30_, t31_, t32_, t33_, t34_, t35_, t36_, t37_, t38_, t39_, t40_, t41_, t42_, t43_, t44_, t45_, t46_, t47_, t48_, t49_, t50_, t51_, t52_, t53_, t54_, t55_, t56_, t57_], defers := d_ } W0 B4 B5 ba oa m cc i u4 A5 n5 c5 xs p) {id : Nat} (fin : ∀ (x32 x33 x34 x35 x36 x37 x38 x39 x40 x41 x42 x43 x44 x45 x46 x47 x48 x49 x50 x51 x52 x53 x54 x55 : Value) (W : World), Chd (fun k => k = B4 ∨ k = B5) W0 W → (∃ u, BlkIs W B4 24 #[u] ∧ Tb W (.agg #[u]) (ins p.k p.v xs)) → (∃ u, BlkIs W B5 36 #[u] ∧ Rt W (.agg #[u]) (ins p.k p.v xs)) → Q .normal { tmps := #[t0_, t1_, t2_, t3_, t4_, t5_, t6_, t7_, t8_, t9_, t10_, t11_, t12_, t13_, t14_, t15_, t16_, t17_, t18_, t19_, t20_, t21_, t22_, t23_, t24_, t25_, t26_, t27_, t28_, t29_, t30_, t31_, x32, x33, x34, x35, x36, x37, x38, x39, x40, x41, x42, x43, x44, x45, x46, x47, x48, x49, x50, x51, x52, x53, x54, x55, t56_, t57_], defers := d_ } W) : (Code.region id ops true).wp Try.prog Q { tmps := #[t0_, t1_, t2_, t3_, t4_, t5_, t6_, t7_, t8_, t9_, t10_, t11_, t12_, t13_, t14_, t15_, t16_, t17_, t18_, t19_, t20_, t21_, t22_, t23_, t24_, t25_, t26_, t27_, t28_, t29_, t30_, t31_, t32_, t33_, t34_, t35_, t36_, t37_, t38_, t39_, t40_, t41_, t42_, t43_, t44_, t45_, t46_, t47_, t48_, t49_, t50_, t51_, t52_, t53_, t54_, t55_, t56_, t57_], defers := d_ } W0 := by
  refine rgMb c ?_
  intro x32 x33 x34 x35 x36 x37 x38 x39 x40 x41 x42 x43 x44 x45 x46 x47 x48 x49 x50 x51 x52 x53 x54 x55 W
  have e : ((((((((((((((((((((((((#[t0_, t1_, t2_, t3_, t4_, t5_, t6_, t7_, t8_, t9_, t10_, t11_, t12_, t13_, t14_, t15_, t16_, t17_, t18_, t19_, t20_, t21_, t22_, t23_, t24_, t25_, t26_, t27_, t28_, t29_, t30_, t31_, t32_, t33_, t34_, t35_, t36_, t37_, t38_, t39_, t40_, t41_, t42_, t43_, t44_, t45_, t46_, t47_, t48_, t49_, t50_, t51_, t52_, t53_, t54_, t55_, t56_, t57_].setIfInBounds 32 x32).setIfInBounds 33 x33).setIfInBounds 34 x34).setIfInBounds 35 x35).setIfInBounds 36 x36).setIfInBounds 37 x37).setIfInBounds 38 x38).setIfInBounds 39 x39).setIfInBounds 40 x40).setIfInBounds 41 x41).setIfInBounds 42 x42).setIfInBounds 43 x43).setIfInBounds 44 x44).setIfInBounds 45 x45).setIfInBounds 46 x46).setIfInBounds 47 x47).setIfInBounds 48 x48).setIfInBounds 49 x49).setIfInBounds 50 x50).setIfInBounds 51 x51).setIfInBounds 52 x52).setIfInBounds 53 x53).setIfInBounds 54 x54).setIfInBounds 55 x55) = #[t0_, t1_, t2_, t3_, t4_, t5_, t6_, t7_, t8_, t9_, t10_, t11_, t12_, t13_, t14_, t15_, t16_, t17_, t18_, t19_, t20_, t21_, t22_, t23_, t24_, t25_, t26_, t27_, t28_, t29_, t30_, t31_, x32, x33, x34, x35, x36, x37, x38, x39, x40, x41, x42, x43, x44, x45, x46, x47, x48, x49, x50, x51, x52, x53, x54, x55, t56_, t57_] := by kernel_rfl
  have f := fin x32 x33 x34 x35 x36 x37 x38 x39 x40 x41 x42 x43 x44 x45 x46 x47 x48 x49 x50 x51 x52 x53 x54 x55 W
  rw [← e] at f
  exact f
end
end Go.Proofs.Ytekcphpeaoaaaaa

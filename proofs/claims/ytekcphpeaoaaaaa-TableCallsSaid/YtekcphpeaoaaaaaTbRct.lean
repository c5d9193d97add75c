/- Package table, the reference: Cut, its region that draws its order, for a slice and for none. Made by wip/tools/rg_cut.py. -/
import Derived.Test.YtekcphpeaoaaaaaTbRc
namespace Go.Proofs.Ytekcphpeaoaaaaa
open Go.RowKit Go.Shelf
set_option linter.unusedVariables false
set_option maxRecDepth 100000
section
variable {ops : Array Oper} {a0 : Act} {W0 : World} {Q : Exit → Act → World → Prop} {B2 B4 B5 b o n c_ k : Nat} {xs : List KV}
structure CRa (ops : Array Oper) (a0 : Act) (W0 : World) (B2 B4 B5 b o n c_ k : Nat) (xs : List KV) : Prop where
  hops : rops Try.f21 2 = ops
  hz : a0.tmps.size = 24
  z2 : a0.eval (.tmp 2) = .pointer (some ⟨B2, 0, none⟩)
  z4 : a0.eval (.tmp 4) = .pointer (some ⟨B4, 0, none⟩)
  z5 : a0.eval (.tmp 5) = .pointer (some ⟨B5, 0, none⟩)
  z6 : a0.eval (.tmp 6) = .int .i64 (k : Int)
  b2 : BlkIs W0 B2 36 #[.slice (some ⟨b, o, none⟩) n c_]
  b4 : BlkIs W0 B4 36 #[.slice none 0 0]
  b5 : BlkIs W0 B5 36 #[.slice none 0 0]
  ne : B4 ≠ B5
  xsn : xs.length ≤ 100000000
  rd : RdC W0 (.slice (some ⟨b, o, none⟩) n c_) (xs.map prOf)
  nn : n = xs.length
  kn : k ≤ n
  nc : n ≤ c_
  cc : c_ ≤ 9223372036854775807
def KRa (W0 : World) (B2 B4 B5 b o n c_ k : Nat) (xs : List KV) : List Kd := [Kd.of (fun v W => Full W0.heap.size [] v W) Full.nx, Kd.eq (.pointer (some ⟨B2, 0, none⟩)), Kd.eq (.slice (some ⟨b, o, none⟩) n c_), Kd.eq (.int .i64 (k : Int)), Kd.eq (.slice (some ⟨b, o, none⟩) k c_), Kd.of (fun v W => Row W W0.heap.size v ((xs.take k).map prOf)) Row.nx, Kd.of (fun v W => Rt W v (xs.take k)) Rt.nx, Kd.of (fun v W => Full W0.heap.size [] v W) Full.nx, Kd.eq (.pointer (some ⟨B2, 0, none⟩)), Kd.eq (.slice (some ⟨b, o, none⟩) n c_), Kd.eq (.int .i64 (k : Int)), Kd.of (fun v _ => RdC W0 v ((xs.drop k).map prOf)) (fun h _ => h), Kd.of (fun v W => Row W W0.heap.size v ((xs.drop k).map prOf)) Row.nx, Kd.of (fun v W => Rt W v (xs.drop k)) Rt.nx, Kd.any, Kd.any]
/-- What is kept. -/
abbrev IRa (W0 : World) (B2 B4 B5 b o n c_ k : Nat) (xs : List KV) : Array Bool → World → Prop := I2 14 15 W0 B4 B5 36 36 (.slice none 0 0) (.slice none 0 0) (fun v W => Rt W v (xs.take k)) (fun v W => Rt W v (xs.drop k))
theorem hRa_0 (c : CRa ops a0 W0 B2 B4 B5 b o n c_ k xs) : ops[0]? = some { dst := some 10, op := .buildSlice 33 0 #[], type := 33, pos := "ref.go:88", after := #[], guard := none } := by rw [← c.hops]; rfl
theorem hRa_1 (c : CRa ops a0 W0 B2 B4 B5 b o n c_ k xs) : ops[1]? = some { dst := some 11, op := .fieldAddr 36 (.tmp 2) 0, type := 0, pos := "ref.go:88", after := #[], guard := none } := by rw [← c.hops]; rfl
theorem hRa_2 (c : CRa ops a0 W0 B2 B4 B5 b o n c_ k xs) : ops[2]? = some { dst := some 12, op := .load 33 (.tmp 11), type := 33, pos := "ref.go:88", after := #[{ on := 1, ground := .data }], guard := none } := by rw [← c.hops]; rfl
theorem hRa_3 (c : CRa ops a0 W0 B2 B4 B5 b o n c_ k xs) : ops[3]? = some { dst := some 13, op := .move (.tmp 6), type := 3, pos := "ref.go:88", after := #[], guard := none } := by rw [← c.hops]; rfl
theorem hRa_4 (c : CRa ops a0 W0 B2 B4 B5 b o n c_ k xs) : ops[4]? = some { dst := some 14, op := .slice 33 (.tmp 12) none (some (.tmp 13)) none, type := 33, pos := "ref.go:88", after := #[{ on := 2, ground := .data }, { on := 3, ground := .data }], guard := none } := by rw [← c.hops]; rfl
theorem hRa_5 (c : CRa ops a0 W0 B2 B4 B5 b o n c_ k xs) : ops[5]? = some { dst := some 15, op := .call { callee := .builtin .append, args := #[.tmp 10, .tmp 14], argTypes := #[33, 33] }, type := 33, pos := "ref.go:88", after := #[{ on := 0, ground := .data }, { on := 4, ground := .data }], guard := none } := by rw [← c.hops]; rfl
theorem hRa_6 (c : CRa ops a0 W0 B2 B4 B5 b o n c_ k xs) : ops[6]? = some { dst := some 16, op := .build 36 #[(0, .tmp 15)], type := 36, pos := "ref.go:88", after := #[{ on := 5, ground := .data }], guard := none } := by rw [← c.hops]; rfl
theorem hRa_7 (c : CRa ops a0 W0 B2 B4 B5 b o n c_ k xs) : ops[7]? = some { dst := some 17, op := .buildSlice 33 0 #[], type := 33, pos := "ref.go:88", after := #[], guard := none } := by rw [← c.hops]; rfl
theorem hRa_8 (c : CRa ops a0 W0 B2 B4 B5 b o n c_ k xs) : ops[8]? = some { dst := some 18, op := .fieldAddr 36 (.tmp 2) 0, type := 0, pos := "ref.go:88", after := #[], guard := none } := by rw [← c.hops]; rfl
theorem hRa_9 (c : CRa ops a0 W0 B2 B4 B5 b o n c_ k xs) : ops[9]? = some { dst := some 19, op := .load 33 (.tmp 18), type := 33, pos := "ref.go:88", after := #[{ on := 8, ground := .data }], guard := none } := by rw [← c.hops]; rfl
theorem hRa_10 (c : CRa ops a0 W0 B2 B4 B5 b o n c_ k xs) : ops[10]? = some { dst := some 20, op := .move (.tmp 6), type := 3, pos := "ref.go:88", after := #[], guard := none } := by rw [← c.hops]; rfl
theorem hRa_11 (c : CRa ops a0 W0 B2 B4 B5 b o n c_ k xs) : ops[11]? = some { dst := some 21, op := .slice 33 (.tmp 19) (some (.tmp 20)) none none, type := 33, pos := "ref.go:88", after := #[{ on := 9, ground := .data }, { on := 10, ground := .data }], guard := none } := by rw [← c.hops]; rfl
theorem hRa_12 (c : CRa ops a0 W0 B2 B4 B5 b o n c_ k xs) : ops[12]? = some { dst := some 22, op := .call { callee := .builtin .append, args := #[.tmp 17, .tmp 21], argTypes := #[33, 33] }, type := 33, pos := "ref.go:88", after := #[{ on := 7, ground := .data }, { on := 11, ground := .data }, { on := 5, ground := .chain }], guard := none } := by rw [← c.hops]; rfl
theorem hRa_13 (c : CRa ops a0 W0 B2 B4 B5 b o n c_ k xs) : ops[13]? = some { dst := some 23, op := .build 36 #[(0, .tmp 22)], type := 36, pos := "ref.go:88", after := #[{ on := 12, ground := .data }, { on := 14, ground := .gcOnly .lateStores }], guard := none } := by rw [← c.hops]; rfl
theorem hRa_14 (c : CRa ops a0 W0 B2 B4 B5 b o n c_ k xs) : ops[14]? = some { dst := none, op := .store 36 (.tmp 4) (.tmp 16), type := 0, pos := "ref.go:88", after := #[{ on := 6, ground := .data }, { on := 12, ground := .chain }, { on := 0, ground := .phase }, { on := 1, ground := .phase }, { on := 2, ground := .phase }, { on := 3, ground := .phase }, { on := 4, ground := .phase }, { on := 5, ground := .phase }, { on := 6, ground := .phase }, { on := 7, ground := .textOnly .lateStores }, { on := 8, ground := .textOnly .lateStores }, { on := 9, ground := .textOnly .lateStores }, { on := 10, ground := .textOnly .lateStores }, { on := 11, ground := .textOnly .lateStoresUnsure }, { on := 12, ground := .textOnly .lateStoresUnsure }, { on := 13, ground := .textOnly .lateStores }], guard := none } := by rw [← c.hops]; rfl
theorem hRa_15 (c : CRa ops a0 W0 B2 B4 B5 b o n c_ k xs) : ops[15]? = some { dst := none, op := .store 36 (.tmp 5) (.tmp 23), type := 0, pos := "ref.go:88", after := #[{ on := 13, ground := .data }, { on := 14, ground := .chain }, { on := 0, ground := .phase }, { on := 1, ground := .phase }, { on := 2, ground := .phase }, { on := 3, ground := .phase }, { on := 4, ground := .phase }, { on := 5, ground := .phase }, { on := 6, ground := .phase }, { on := 7, ground := .phase }, { on := 8, ground := .phase }, { on := 9, ground := .phase }, { on := 10, ground := .phase }, { on := 11, ground := .phase }, { on := 12, ground := .phase }, { on := 13, ground := .phase }, { on := 14, ground := .phase }], guard := none } := by rw [← c.hops]; rfl
theorem huRa (c : CRa ops a0 W0 B2 B4 B5 b o n c_ k xs) : dstB ops = true := by rw [← c.hops]; kernel_rfl
theorem hoRa (c : CRa ops a0 W0 B2 B4 B5 b o n c_ k xs) : ordB ops = true := by rw [← c.hops]; kernel_rfl
theorem hnRa (c : CRa ops a0 W0 B2 B4 B5 b o n c_ k xs) : ops.size = 16 := by rw [← c.hops]; rfl
theorem hdRa (c : CRa ops a0 W0 B2 B4 B5 b o n c_ k xs) : dsts ops = [10, 11, 12, 13, 14, 15, 16, 17, 18, 19, 20, 21, 22, 23] := by rw [← c.hops]; rfl
theorem oRa_2 (c : CRa ops a0 W0 B2 B4 B5 b o n c_ k xs) : oldB ops 2 = true := by rw [← c.hops]; kernel_rfl
theorem oRa_4 (c : CRa ops a0 W0 B2 B4 B5 b o n c_ k xs) : oldB ops 4 = true := by rw [← c.hops]; kernel_rfl
theorem oRa_5 (c : CRa ops a0 W0 B2 B4 B5 b o n c_ k xs) : oldB ops 5 = true := by rw [← c.hops]; kernel_rfl
theorem oRa_6 (c : CRa ops a0 W0 B2 B4 B5 b o n c_ k xs) : oldB ops 6 = true := by rw [← c.hops]; kernel_rfl
theorem ivRa (c : CRa ops a0 W0 B2 B4 B5 b o n c_ k xs) {l : Array Bool} {W W' : World} (h : IRa W0 B2 B4 B5 b o n c_ k xs l W) (hn : Nx W W') {i : Nat} (hi : i ≠ 14 ∧ i ≠ 15) : IRa W0 B2 B4 B5 b o n c_ k xs (l.setIfInBounds i true) W' := I2.step h Rt.nx Rt.nx hn hi
theorem nxRa (c : CRa ops a0 W0 B2 B4 B5 b o n c_ k xs) {l : Array Bool} {W : World} (h : IRa W0 B2 B4 B5 b o n c_ k xs l W) (h6 : l.getD 14 false = false) : Nx W0 W := h.nx h6
theorem sRa_0 (c : CRa ops a0 W0 B2 B4 B5 b o n c_ k xs) : Stp Try.prog ops Q a0 (KRa W0 B2 B4 B5 b o n c_ k xs) (IRa W0 B2 B4 B5 b o n c_ k xs) 0 := stp_val (huRa c) (hRa_0 c) rfl (by rw [c.hz]; decide) fun l a W hF hn hd => ⟨want_none rfl, by
    have nxa : Nx W (W.alloc (.cells #[] 40)) := (Nx.refl W).alloc _
    refine ⟨.slice (some ⟨W.heap.size, 0, none⟩) 0 0, W.alloc (.cells #[] 40), ?_, full_none W _ (nxRa c hF.inv (hF.off hn (hRa_14 c) (by rfl))).size, nxa, (ivRa c hF.inv nxa (i := 0) (by decide))⟩
    show (execOp a.eval _).run Try.prog W = _
    simp only [execOp]
    simp [go_sem]⟩
theorem sRa_1 (c : CRa ops a0 W0 B2 B4 B5 b o n c_ k xs) : Stp Try.prog ops Q a0 (KRa W0 B2 B4 B5 b o n c_ k xs) (IRa W0 B2 B4 B5 b o n c_ k xs) 1 := stp_val (huRa c) (hRa_1 c) rfl (by rw [c.hz]; decide) fun l a W hF hn hd => ⟨want_none rfl, by
    have e2 : a.eval (.tmp 2) = .pointer (some ⟨B2, 0, none⟩) := (hF.old (oRa_2 c)).trans c.z2
    refine ⟨.pointer (some ⟨B2, 0, none⟩), W, ?_, rfl, Nx.refl W, (ivRa c hF.inv (Nx.refl W) (i := 1) (by decide))⟩
    show (execOp a.eval _).run Try.prog W = _
    simp only [execOp, e2]
    simp [go_sem]⟩
theorem sRa_2 (c : CRa ops a0 W0 B2 B4 B5 b o n c_ k xs) : Stp Try.prog ops Q a0 (KRa W0 B2 B4 B5 b o n c_ k xs) (IRa W0 B2 B4 B5 b o n c_ k xs) 2 := stp_val (huRa c) (hRa_2 c) rfl (by rw [c.hz]; decide) fun l a W hF hn hd => ⟨want_none rfl, by
    have e11 : a.eval (.tmp 11) = .pointer (some ⟨B2, 0, none⟩) := by obtain ⟨v, e, p⟩ := hF.get (hRa_1 c) rfl (hd.at 1 (by rfl)); exact e.trans p
    have m := c.b2.at0 (nxRa c hF.inv (hF.off hn (hRa_14 c) (by rfl)))
    refine ⟨.slice (some ⟨b, o, none⟩) n c_, W, ?_, rfl, Nx.refl W, (ivRa c hF.inv (Nx.refl W) (i := 2) (by decide))⟩
    show (execOp a.eval _).run Try.prog W = _
    simp only [execOp, e11]
    simp [go_sem, m]⟩
theorem sRa_3 (c : CRa ops a0 W0 B2 B4 B5 b o n c_ k xs) : Stp Try.prog ops Q a0 (KRa W0 B2 B4 B5 b o n c_ k xs) (IRa W0 B2 B4 B5 b o n c_ k xs) 3 := stp_val (huRa c) (hRa_3 c) rfl (by rw [c.hz]; decide) fun l a W hF hn hd => ⟨want_none rfl, by
    have e6 : a.eval (.tmp 6) = .int .i64 (k : Int) := (hF.old (oRa_6 c)).trans c.z6
    exact ⟨.int .i64 (k : Int), W, by show Result.ok (Next.value (a.eval _)) W = _; rw [e6], rfl, Nx.refl W, (ivRa c hF.inv (Nx.refl W) (i := 3) (by decide))⟩⟩
theorem sRa_4 (c : CRa ops a0 W0 B2 B4 B5 b o n c_ k xs) : Stp Try.prog ops Q a0 (KRa W0 B2 B4 B5 b o n c_ k xs) (IRa W0 B2 B4 B5 b o n c_ k xs) 4 := stp_val (huRa c) (hRa_4 c) rfl (by rw [c.hz]; decide) fun l a W hF hn hd => ⟨want_none rfl, by
    have e12 : a.eval (.tmp 12) = .slice (some ⟨b, o, none⟩) n c_ := by obtain ⟨v, e, p⟩ := hF.get (hRa_2 c) rfl (hd.at 2 (by rfl)); exact e.trans p
    have e13 : a.eval (.tmp 13) = .int .i64 (k : Int) := by obtain ⟨v, e, p⟩ := hF.get (hRa_3 c) rfl (hd.at 3 (by rfl)); exact e.trans p
    exact ⟨.slice (some ⟨b, o, none⟩) k c_, W, run_lo rfl e12 e13 c.kn c.nc, rfl, Nx.refl W, (ivRa c hF.inv (Nx.refl W) (i := 4) (by decide))⟩⟩
theorem sRa_5 (c : CRa ops a0 W0 B2 B4 B5 b o n c_ k xs) : Stp Try.prog ops Q a0 (KRa W0 B2 B4 B5 b o n c_ k xs) (IRa W0 B2 B4 B5 b o n c_ k xs) 5 := stp_val (huRa c) (hRa_5 c) rfl (by rw [c.hz]; decide) fun l a W hF hn hd => ⟨want_none rfl, by
    obtain ⟨v10, e10, p10⟩ := hF.get (hRa_0 c) rfl (hd.at 0 (by rfl))
    have p10 : Full W0.heap.size [] v10 W := p10
    have e14 : a.eval (.tmp 14) = .slice (some ⟨b, o, none⟩) k c_ := by obtain ⟨v, e, p⟩ := hF.get (hRa_4 c) rfl (hd.at 4 (by rfl)); exact e.trans p
    obtain ⟨g0, n0, e0, hr0⟩ := p10
    subst e0
    obtain ⟨v', W', h1, hrow, hnx⟩ := run_appF (o := { dst := some 15, op := .call { callee := .builtin .append, args := #[.tmp 10, .tmp 14], argTypes := #[33, 33] }, type := 33, pos := "ref.go:88", after := #[{ on := 0, ground := .data }, { on := 4, ground := .data }], guard := none }) (.tmp 10) (.tmp 14) rfl W0.heap.size g0 n0 _ _ _ e10 e14 hr0 ((RdC.lo c.rd k (by have := c.kn; have := c.nn; omega)).nx (nxRa c hF.inv (hF.off hn (hRa_14 c) (by rfl)))) (by rw [List.length_map]; have := c.xsn; simp only [List.length_take, List.length_nil]; omega) (nxRa c hF.inv (hF.off hn (hRa_14 c) (by rfl))).size
    exact ⟨v', W', h1, by rw [List.nil_append] at hrow; exact hrow, hnx, (ivRa c hF.inv hnx (i := 5) (by decide))⟩⟩
theorem sRa_6 (c : CRa ops a0 W0 B2 B4 B5 b o n c_ k xs) : Stp Try.prog ops Q a0 (KRa W0 B2 B4 B5 b o n c_ k xs) (IRa W0 B2 B4 B5 b o n c_ k xs) 6 := stp_val (huRa c) (hRa_6 c) rfl (by rw [c.hz]; decide) fun l a W hF hn hd => ⟨want_none rfl, by
    obtain ⟨v15, e15, p15⟩ := hF.get (hRa_5 c) rfl (hd.at 5 (by rfl))
    have p15 : Row W W0.heap.size v15 ((xs.take k).map prOf) := p15
    obtain ⟨A9, c9, e9⟩ := own_slice p15
    rw [e9] at e15
    exact ⟨_, W, run_build1 rfl e15, ⟨_, rfl, by rw [← e9]; exact p15.rdc, by rw [← e9]; exact p15.pln⟩, Nx.refl W, (ivRa c hF.inv (Nx.refl W) (i := 6) (by decide))⟩⟩
theorem sRa_7 (c : CRa ops a0 W0 B2 B4 B5 b o n c_ k xs) : Stp Try.prog ops Q a0 (KRa W0 B2 B4 B5 b o n c_ k xs) (IRa W0 B2 B4 B5 b o n c_ k xs) 7 := stp_val (huRa c) (hRa_7 c) rfl (by rw [c.hz]; decide) fun l a W hF hn hd => ⟨want_none rfl, by
    have nxa : Nx W (W.alloc (.cells #[] 40)) := (Nx.refl W).alloc _
    refine ⟨.slice (some ⟨W.heap.size, 0, none⟩) 0 0, W.alloc (.cells #[] 40), ?_, full_none W _ (nxRa c hF.inv (hF.off (hF.off hn (hRa_12 c) (by rfl)) (hRa_14 c) (by rfl))).size, nxa, (ivRa c hF.inv nxa (i := 7) (by decide))⟩
    show (execOp a.eval _).run Try.prog W = _
    simp only [execOp]
    simp [go_sem]⟩
theorem sRa_8 (c : CRa ops a0 W0 B2 B4 B5 b o n c_ k xs) : Stp Try.prog ops Q a0 (KRa W0 B2 B4 B5 b o n c_ k xs) (IRa W0 B2 B4 B5 b o n c_ k xs) 8 := stp_val (huRa c) (hRa_8 c) rfl (by rw [c.hz]; decide) fun l a W hF hn hd => ⟨want_none rfl, by
    have e2 : a.eval (.tmp 2) = .pointer (some ⟨B2, 0, none⟩) := (hF.old (oRa_2 c)).trans c.z2
    refine ⟨.pointer (some ⟨B2, 0, none⟩), W, ?_, rfl, Nx.refl W, (ivRa c hF.inv (Nx.refl W) (i := 8) (by decide))⟩
    show (execOp a.eval _).run Try.prog W = _
    simp only [execOp, e2]
    simp [go_sem]⟩
theorem sRa_9 (c : CRa ops a0 W0 B2 B4 B5 b o n c_ k xs) : Stp Try.prog ops Q a0 (KRa W0 B2 B4 B5 b o n c_ k xs) (IRa W0 B2 B4 B5 b o n c_ k xs) 9 := stp_val (huRa c) (hRa_9 c) rfl (by rw [c.hz]; decide) fun l a W hF hn hd => ⟨want_none rfl, by
    have e18 : a.eval (.tmp 18) = .pointer (some ⟨B2, 0, none⟩) := by obtain ⟨v, e, p⟩ := hF.get (hRa_8 c) rfl (hd.at 8 (by rfl)); exact e.trans p
    have m := c.b2.at0 (nxRa c hF.inv (hF.off (hF.off (hF.off hn (hRa_11 c) (by rfl)) (hRa_12 c) (by rfl)) (hRa_14 c) (by rfl)))
    refine ⟨.slice (some ⟨b, o, none⟩) n c_, W, ?_, rfl, Nx.refl W, (ivRa c hF.inv (Nx.refl W) (i := 9) (by decide))⟩
    show (execOp a.eval _).run Try.prog W = _
    simp only [execOp, e18]
    simp [go_sem, m]⟩
theorem sRa_10 (c : CRa ops a0 W0 B2 B4 B5 b o n c_ k xs) : Stp Try.prog ops Q a0 (KRa W0 B2 B4 B5 b o n c_ k xs) (IRa W0 B2 B4 B5 b o n c_ k xs) 10 := stp_val (huRa c) (hRa_10 c) rfl (by rw [c.hz]; decide) fun l a W hF hn hd => ⟨want_none rfl, by
    have e6 : a.eval (.tmp 6) = .int .i64 (k : Int) := (hF.old (oRa_6 c)).trans c.z6
    exact ⟨.int .i64 (k : Int), W, by show Result.ok (Next.value (a.eval _)) W = _; rw [e6], rfl, Nx.refl W, (ivRa c hF.inv (Nx.refl W) (i := 10) (by decide))⟩⟩
theorem sRa_11 (c : CRa ops a0 W0 B2 B4 B5 b o n c_ k xs) : Stp Try.prog ops Q a0 (KRa W0 B2 B4 B5 b o n c_ k xs) (IRa W0 B2 B4 B5 b o n c_ k xs) 11 := stp_val (huRa c) (hRa_11 c) rfl (by rw [c.hz]; decide) fun l a W hF hn hd => ⟨want_none rfl, by
    have e19 : a.eval (.tmp 19) = .slice (some ⟨b, o, none⟩) n c_ := by obtain ⟨v, e, p⟩ := hF.get (hRa_9 c) rfl (hd.at 9 (by rfl)); exact e.trans p
    have e20 : a.eval (.tmp 20) = .int .i64 (k : Int) := by obtain ⟨v, e, p⟩ := hF.get (hRa_10 c) rfl (hd.at 10 (by rfl)); exact e.trans p
    obtain ⟨v', h1, h2⟩ := run_hi (W := W) (o := { dst := some 21, op := .slice 33 (.tmp 19) (some (.tmp 20)) none none, type := 33, pos := "ref.go:88", after := #[{ on := 9, ground := .data }, { on := 10, ground := .data }], guard := none }) rfl e19 e20 c.kn c.nc c.nn c.rd
    exact ⟨v', W, h1, h2, Nx.refl W, (ivRa c hF.inv (Nx.refl W) (i := 11) (by decide))⟩⟩
theorem sRa_12 (c : CRa ops a0 W0 B2 B4 B5 b o n c_ k xs) : Stp Try.prog ops Q a0 (KRa W0 B2 B4 B5 b o n c_ k xs) (IRa W0 B2 B4 B5 b o n c_ k xs) 12 := stp_val (huRa c) (hRa_12 c) rfl (by rw [c.hz]; decide) fun l a W hF hn hd => ⟨want_none rfl, by
    obtain ⟨v17, e17, p17⟩ := hF.get (hRa_7 c) rfl (hd.at 7 (by rfl))
    have p17 : Full W0.heap.size [] v17 W := p17
    obtain ⟨v21, e21, p21⟩ := hF.get (hRa_11 c) rfl (hd.at 11 (by rfl))
    have p21 : RdC W0 v21 ((xs.drop k).map prOf) := p21
    obtain ⟨g0, n0, e0, hr0⟩ := p17
    subst e0
    obtain ⟨v', W', h1, hrow, hnx⟩ := run_appF (o := { dst := some 22, op := .call { callee := .builtin .append, args := #[.tmp 17, .tmp 21], argTypes := #[33, 33] }, type := 33, pos := "ref.go:88", after := #[{ on := 7, ground := .data }, { on := 11, ground := .data }, { on := 5, ground := .chain }], guard := none }) (.tmp 17) (.tmp 21) rfl W0.heap.size g0 n0 _ _ _ e17 e21 hr0 (p21.nx (nxRa c hF.inv (hF.off hn (hRa_14 c) (by rfl)))) (by rw [List.length_map]; have := c.xsn; simp only [List.length_drop, List.length_nil]; omega) (nxRa c hF.inv (hF.off hn (hRa_14 c) (by rfl))).size
    exact ⟨v', W', h1, by rw [List.nil_append] at hrow; exact hrow, hnx, (ivRa c hF.inv hnx (i := 12) (by decide))⟩⟩
theorem sRa_13 (c : CRa ops a0 W0 B2 B4 B5 b o n c_ k xs) : Stp Try.prog ops Q a0 (KRa W0 B2 B4 B5 b o n c_ k xs) (IRa W0 B2 B4 B5 b o n c_ k xs) 13 := stp_val (huRa c) (hRa_13 c) rfl (by rw [c.hz]; decide) fun l a W hF hn hd => ⟨want_none rfl, by
    obtain ⟨v22, e22, p22⟩ := hF.get (hRa_12 c) rfl (hd.at 12 (by rfl))
    have p22 : Row W W0.heap.size v22 ((xs.drop k).map prOf) := p22
    obtain ⟨A9, c9, e9⟩ := own_slice p22
    rw [e9] at e22
    exact ⟨_, W, run_build1 rfl e22, ⟨_, rfl, by rw [← e9]; exact p22.rdc, by rw [← e9]; exact p22.pln⟩, Nx.refl W, (ivRa c hF.inv (Nx.refl W) (i := 13) (by decide))⟩⟩
theorem sRa_14 (c : CRa ops a0 W0 B2 B4 B5 b o n c_ k xs) : Stp Try.prog ops Q a0 (KRa W0 B2 B4 B5 b o n c_ k xs) (IRa W0 B2 B4 B5 b o n c_ k xs) 14 := stp_skip (hRa_14 c) rfl fun l a W hF hn hd => ⟨want_none rfl, by
    have e4 : a.eval (.tmp 4) = .pointer (some ⟨B4, 0, none⟩) := (hF.old (oRa_4 c)).trans c.z4
    obtain ⟨v16, e16, p16⟩ := hF.get (hRa_6 c) rfl (hd.at 6 (by rfl))
    have p16 : Rt W v16 (xs.take k) := p16
    have h2 := hF.off hn (hRa_15 c) (by rfl)
    have nx := hF.inv.nx hn
    obtain ⟨A1, n1, c1, rfl⟩ := Rt.agg p16
    have hb := c.b4.nx nx
    have m := c.b4.at0 nx
    have f := hb.frozen 0
    refine ⟨W.setCell ⟨B4, 0, none⟩ (.slice A1 n1 c1), ?_, fun j v hne hl => match j, hne, hl with | 0, hne, hl => fun h => Full.store h (by first | exact c.b4.lt | exact c.b5.lt) _ | 1, hne, hl => fun h => h | 2, hne, hl => fun h => h | 3, hne, hl => fun h => h | 4, hne, hl => fun h => h | 5, hne, hl => fun h => Row.store h (by first | exact c.b4.lt | exact c.b5.lt) _ | 6, hne, hl => fun h => Rt.store h hb (fun s h => by cases h) _ | 7, hne, hl => fun h => Full.store h (by first | exact c.b4.lt | exact c.b5.lt) _ | 8, hne, hl => fun h => h | 9, hne, hl => fun h => h | 10, hne, hl => fun h => h | 11, hne, hl => fun h => h | 12, hne, hl => fun h => Row.store h (by first | exact c.b4.lt | exact c.b5.lt) _ | 13, hne, hl => fun h => Rt.store h hb (fun s h => by cases h) _ | 14, hne, hl => fun h => absurd rfl hne | 15, hne, hl => fun h => h | (k + 16), _, _ => fun _ => trivial, hF.inv.putB c.b4 c.ne (by decide) (hF.lt (hRa_14 c)) hn h2 (p16.store hb (fun s h => by cases h) _)⟩
    show (execOp a.eval _).run Try.prog W = _
    simp only [execOp, e4, e16]
    simp [go_sem, m, f]⟩
theorem sRa_15 (c : CRa ops a0 W0 B2 B4 B5 b o n c_ k xs) : Stp Try.prog ops Q a0 (KRa W0 B2 B4 B5 b o n c_ k xs) (IRa W0 B2 B4 B5 b o n c_ k xs) 15 := stp_skip (hRa_15 c) rfl fun l a W hF hn hd => ⟨want_none rfl, by
    have e5 : a.eval (.tmp 5) = .pointer (some ⟨B5, 0, none⟩) := (hF.old (oRa_5 c)).trans c.z5
    obtain ⟨v23, e23, p23⟩ := hF.get (hRa_13 c) rfl (hd.at 13 (by rfl))
    have p23 : Rt W v23 (xs.drop k) := p23
    have h1 := hd.at 14 (by rfl)
    obtain ⟨A1, n1, c1, rfl⟩ := Rt.agg p23
    have hb := hF.inv.c0 hn
    have m : W.cell? ⟨B5, 0, none⟩ = some _ := hb.at0 (Nx.refl W)
    have f := hb.frozen 0
    refine ⟨W.setCell ⟨B5, 0, none⟩ (.slice A1 n1 c1), ?_, fun j v hne hl => match j, hne, hl with | 0, hne, hl => fun h => Full.store h (by first | exact c.b4.lt | exact c.b5.lt) _ | 1, hne, hl => fun h => h | 2, hne, hl => fun h => h | 3, hne, hl => fun h => h | 4, hne, hl => fun h => h | 5, hne, hl => fun h => Row.store h (by first | exact c.b4.lt | exact c.b5.lt) _ | 6, hne, hl => fun h => Rt.store h hb (fun s h => by cases h) _ | 7, hne, hl => fun h => Full.store h (by first | exact c.b4.lt | exact c.b5.lt) _ | 8, hne, hl => fun h => h | 9, hne, hl => fun h => h | 10, hne, hl => fun h => h | 11, hne, hl => fun h => h | 12, hne, hl => fun h => Row.store h (by first | exact c.b4.lt | exact c.b5.lt) _ | 13, hne, hl => fun h => Rt.store h hb (fun s h => by cases h) _ | 14, hne, hl => fun h => h | 15, hne, hl => fun h => absurd rfl hne | (k + 16), _, _ => fun _ => trivial, hF.inv.putC c.ne (by decide) (hF.lt (hRa_15 c)) h1 hn (fun v h => Rt.store h hb (fun s h => by cases h) _) (p23.store hb (fun s h => by cases h) _)⟩
    show (execOp a.eval _).run Try.prog W = _
    simp only [execOp, e5, e23]
    simp [go_sem, m, f]⟩
theorem rgRa (c : CRa ops a0 W0 B2 B4 B5 b o n c_ k xs) {id : Nat} (fin : ∀ (x10 x11 x12 x13 x14 x15 x16 x17 x18 x19 x20 x21 x22 x23 : Value) (W : World), Chd (fun k => k = B4 ∨ k = B5) W0 W → (∃ u, BlkIs W B4 36 #[u] ∧ Rt W (.agg #[u]) (xs.take k)) → (∃ u, BlkIs W B5 36 #[u] ∧ Rt W (.agg #[u]) (xs.drop k)) → Q .normal { tmps := ((((((((((((((a0.tmps.setIfInBounds 10 x10).setIfInBounds 11 x11).setIfInBounds 12 x12).setIfInBounds 13 x13).setIfInBounds 14 x14).setIfInBounds 15 x15).setIfInBounds 16 x16).setIfInBounds 17 x17).setIfInBounds 18 x18).setIfInBounds 19 x19).setIfInBounds 20 x20).setIfInBounds 21 x21).setIfInBounds 22 x22).setIfInBounds 23 x23), defers := a0.defers } W) : (Code.region id ops true).wp Try.prog Q a0 W0 := by
  refine flows (K := (KRa W0 B2 B4 B5 b o n c_ k xs)) (Inv := (IRa W0 B2 B4 B5 b o n c_ k xs)) (by kernel_rfl) (hoRa c) (hnRa c) (I2.start c.b4 c.b5) ⟨⟨⟨⟨⟨⟨⟨⟨⟨⟨⟨⟨⟨⟨⟨⟨trivial, sRa_0 c⟩, sRa_1 c⟩, sRa_2 c⟩, sRa_3 c⟩, sRa_4 c⟩, sRa_5 c⟩, sRa_6 c⟩, sRa_7 c⟩, sRa_8 c⟩, sRa_9 c⟩, sRa_10 c⟩, sRa_11 c⟩, sRa_12 c⟩, sRa_13 c⟩, sRa_14 c⟩, sRa_15 c⟩ fun l a W hF hl => ?_
  have f := hF.form
  rw [hdRa c] at f
  simp only [List.foldl] at f
  rw [f]
  exact fin _ _ _ _ _ _ _ _ _ _ _ _ _ _ W  hF.inv.chd (hF.inv.b (hl 14 (by decide))) (hF.inv.c (hl 15 (by decide)))
theorem rgRaL {t0_ t1_ t2_ t3_ t4_ t5_ t6_ t7_ t8_ t9_ t10_ t11_ t12_ t13_ t14_ t15_ t16_ t17_ t18_ t19_ t20_ t21_ t22_ t23_ : Value} {d_ : List Deferred} (c : CRa ops { tmps := #[t0_, t1_, t2_, t3_, t4_, t5_, t6_, t7_, t8_, t9_, t10_, t11_, t12_, t13_, t14_, t15_, t16_, t17_, t18_, t19_, t20_, t21_, t22_, t23_], defers := d_ } W0 B2 B4 B5 b o n c_ k xs) {id : Nat} (fin : ∀ (x10 x11 x12 x13 x14 x15 x16 x17 x18 x19 x20 x21 x22 x23 : Value) (W : World), Chd (fun k => k = B4 ∨ k = B5) W0 W → (∃ u, BlkIs W B4 36 #[u] ∧ Rt W (.agg #[u]) (xs.take k)) → (∃ u, BlkIs W B5 36 #[u] ∧ Rt W (.agg #[u]) (xs.drop k)) → Q .normal { tmps := #[t0_, t1_, t2_, t3_, t4_, t5_, t6_, t7_, t8_, t9_, x10, x11, x12, x13, x14, x15, x16, x17, x18, x19, x20, x21, x22, x23], defers := d_ } W) : (Code.region id ops true).wp Try.prog Q { tmps := #[t0_, t1_, t2_, t3_, t4_, t5_, t6_, t7_, t8_, t9_, t10_, t11_, t12_, t13_, t14_, t15_, t16_, t17_, t18_, t19_, t20_, t21_, t22_, t23_], defers := d_ } W0 := by
  refine rgRa c ?_
  intro x10 x11 x12 x13 x14 x15 x16 x17 x18 x19 x20 x21 x22 x23 W
  have e : ((((((((((((((#[t0_, t1_, t2_, t3_, t4_, t5_, t6_, t7_, t8_, t9_, t10_, t11_, t12_, t13_, t14_, t15_, t16_, t17_, t18_, t19_, t20_, t21_, t22_, t23_].setIfInBounds 10 x10).setIfInBounds 11 x11).setIfInBounds 12 x12).setIfInBounds 13 x13).setIfInBounds 14 x14).setIfInBounds 15 x15).setIfInBounds 16 x16).setIfInBounds 17 x17).setIfInBounds 18 x18).setIfInBounds 19 x19).setIfInBounds 20 x20).setIfInBounds 21 x21).setIfInBounds 22 x22).setIfInBounds 23 x23) = #[t0_, t1_, t2_, t3_, t4_, t5_, t6_, t7_, t8_, t9_, x10, x11, x12, x13, x14, x15, x16, x17, x18, x19, x20, x21, x22, x23] := by kernel_rfl
  have f := fin x10 x11 x12 x13 x14 x15 x16 x17 x18 x19 x20 x21 x22 x23 W
  rw [← e] at f
  exact f
end
section
variable {ops : Array Oper} {a0 : Act} {W0 : World} {Q : Exit → Act → World → Prop} {B2 B4 B5 k : Nat} {xs : List KV}
structure CRb (ops : Array Oper) (a0 : Act) (W0 : World) (B2 B4 B5 k : Nat) (xs : List KV) : Prop where
  hops : rops Try.f21 2 = ops
  hz : a0.tmps.size = 24
  z2 : a0.eval (.tmp 2) = .pointer (some ⟨B2, 0, none⟩)
  z4 : a0.eval (.tmp 4) = .pointer (some ⟨B4, 0, none⟩)
  z5 : a0.eval (.tmp 5) = .pointer (some ⟨B5, 0, none⟩)
  z6 : a0.eval (.tmp 6) = .int .i64 (k : Int)
  b2 : BlkIs W0 B2 36 #[.slice none 0 0]
  b4 : BlkIs W0 B4 36 #[.slice none 0 0]
  b5 : BlkIs W0 B5 36 #[.slice none 0 0]
  ne : B4 ≠ B5
  xsn : xs.length ≤ 100000000
  x0 : xs = []
  k0 : k = 0
def KRb (W0 : World) (B2 B4 B5 k : Nat) (xs : List KV) : List Kd := [Kd.of (fun v W => Full W0.heap.size [] v W) Full.nx, Kd.eq (.pointer (some ⟨B2, 0, none⟩)), Kd.eq (.slice none 0 0), Kd.eq (.int .i64 (k : Int)), Kd.eq (.slice none 0 0), Kd.of (fun v W => Row W W0.heap.size v ((xs.take k).map prOf)) Row.nx, Kd.of (fun v W => Rt W v (xs.take k)) Rt.nx, Kd.of (fun v W => Full W0.heap.size [] v W) Full.nx, Kd.eq (.pointer (some ⟨B2, 0, none⟩)), Kd.eq (.slice none 0 0), Kd.eq (.int .i64 (k : Int)), Kd.eq (.slice none 0 0), Kd.of (fun v W => Row W W0.heap.size v ((xs.drop k).map prOf)) Row.nx, Kd.of (fun v W => Rt W v (xs.drop k)) Rt.nx, Kd.any, Kd.any]
/-- What is kept. -/
abbrev IRb (W0 : World) (B2 B4 B5 k : Nat) (xs : List KV) : Array Bool → World → Prop := I2 14 15 W0 B4 B5 36 36 (.slice none 0 0) (.slice none 0 0) (fun v W => Rt W v (xs.take k)) (fun v W => Rt W v (xs.drop k))
theorem hRb_0 (c : CRb ops a0 W0 B2 B4 B5 k xs) : ops[0]? = some { dst := some 10, op := .buildSlice 33 0 #[], type := 33, pos := "ref.go:88", after := #[], guard := none } := by rw [← c.hops]; rfl
theorem hRb_1 (c : CRb ops a0 W0 B2 B4 B5 k xs) : ops[1]? = some { dst := some 11, op := .fieldAddr 36 (.tmp 2) 0, type := 0, pos := "ref.go:88", after := #[], guard := none } := by rw [← c.hops]; rfl
theorem hRb_2 (c : CRb ops a0 W0 B2 B4 B5 k xs) : ops[2]? = some { dst := some 12, op := .load 33 (.tmp 11), type := 33, pos := "ref.go:88", after := #[{ on := 1, ground := .data }], guard := none } := by rw [← c.hops]; rfl
theorem hRb_3 (c : CRb ops a0 W0 B2 B4 B5 k xs) : ops[3]? = some { dst := some 13, op := .move (.tmp 6), type := 3, pos := "ref.go:88", after := #[], guard := none } := by rw [← c.hops]; rfl
theorem hRb_4 (c : CRb ops a0 W0 B2 B4 B5 k xs) : ops[4]? = some { dst := some 14, op := .slice 33 (.tmp 12) none (some (.tmp 13)) none, type := 33, pos := "ref.go:88", after := #[{ on := 2, ground := .data }, { on := 3, ground := .data }], guard := none } := by rw [← c.hops]; rfl
theorem hRb_5 (c : CRb ops a0 W0 B2 B4 B5 k xs) : ops[5]? = some { dst := some 15, op := .call { callee := .builtin .append, args := #[.tmp 10, .tmp 14], argTypes := #[33, 33] }, type := 33, pos := "ref.go:88", after := #[{ on := 0, ground := .data }, { on := 4, ground := .data }], guard := none } := by rw [← c.hops]; rfl
theorem hRb_6 (c : CRb ops a0 W0 B2 B4 B5 k xs) : ops[6]? = some { dst := some 16, op := .build 36 #[(0, .tmp 15)], type := 36, pos := "ref.go:88", after := #[{ on := 5, ground := .data }], guard := none } := by rw [← c.hops]; rfl
theorem hRb_7 (c : CRb ops a0 W0 B2 B4 B5 k xs) : ops[7]? = some { dst := some 17, op := .buildSlice 33 0 #[], type := 33, pos := "ref.go:88", after := #[], guard := none } := by rw [← c.hops]; rfl
theorem hRb_8 (c : CRb ops a0 W0 B2 B4 B5 k xs) : ops[8]? = some { dst := some 18, op := .fieldAddr 36 (.tmp 2) 0, type := 0, pos := "ref.go:88", after := #[], guard := none } := by rw [← c.hops]; rfl
theorem hRb_9 (c : CRb ops a0 W0 B2 B4 B5 k xs) : ops[9]? = some { dst := some 19, op := .load 33 (.tmp 18), type := 33, pos := "ref.go:88", after := #[{ on := 8, ground := .data }], guard := none } := by rw [← c.hops]; rfl
theorem hRb_10 (c : CRb ops a0 W0 B2 B4 B5 k xs) : ops[10]? = some { dst := some 20, op := .move (.tmp 6), type := 3, pos := "ref.go:88", after := #[], guard := none } := by rw [← c.hops]; rfl
theorem hRb_11 (c : CRb ops a0 W0 B2 B4 B5 k xs) : ops[11]? = some { dst := some 21, op := .slice 33 (.tmp 19) (some (.tmp 20)) none none, type := 33, pos := "ref.go:88", after := #[{ on := 9, ground := .data }, { on := 10, ground := .data }], guard := none } := by rw [← c.hops]; rfl
theorem hRb_12 (c : CRb ops a0 W0 B2 B4 B5 k xs) : ops[12]? = some { dst := some 22, op := .call { callee := .builtin .append, args := #[.tmp 17, .tmp 21], argTypes := #[33, 33] }, type := 33, pos := "ref.go:88", after := #[{ on := 7, ground := .data }, { on := 11, ground := .data }, { on := 5, ground := .chain }], guard := none } := by rw [← c.hops]; rfl
theorem hRb_13 (c : CRb ops a0 W0 B2 B4 B5 k xs) : ops[13]? = some { dst := some 23, op := .build 36 #[(0, .tmp 22)], type := 36, pos := "ref.go:88", after := #[{ on := 12, ground := .data }, { on := 14, ground := .gcOnly .lateStores }], guard := none } := by rw [← c.hops]; rfl
theorem hRb_14 (c : CRb ops a0 W0 B2 B4 B5 k xs) : ops[14]? = some { dst := none, op := .store 36 (.tmp 4) (.tmp 16), type := 0, pos := "ref.go:88", after := #[{ on := 6, ground := .data }, { on := 12, ground := .chain }, { on := 0, ground := .phase }, { on := 1, ground := .phase }, { on := 2, ground := .phase }, { on := 3, ground := .phase }, { on := 4, ground := .phase }, { on := 5, ground := .phase }, { on := 6, ground := .phase }, { on := 7, ground := .textOnly .lateStores }, { on := 8, ground := .textOnly .lateStores }, { on := 9, ground := .textOnly .lateStores }, { on := 10, ground := .textOnly .lateStores }, { on := 11, ground := .textOnly .lateStoresUnsure }, { on := 12, ground := .textOnly .lateStoresUnsure }, { on := 13, ground := .textOnly .lateStores }], guard := none } := by rw [← c.hops]; rfl
theorem hRb_15 (c : CRb ops a0 W0 B2 B4 B5 k xs) : ops[15]? = some { dst := none, op := .store 36 (.tmp 5) (.tmp 23), type := 0, pos := "ref.go:88", after := #[{ on := 13, ground := .data }, { on := 14, ground := .chain }, { on := 0, ground := .phase }, { on := 1, ground := .phase }, { on := 2, ground := .phase }, { on := 3, ground := .phase }, { on := 4, ground := .phase }, { on := 5, ground := .phase }, { on := 6, ground := .phase }, { on := 7, ground := .phase }, { on := 8, ground := .phase }, { on := 9, ground := .phase }, { on := 10, ground := .phase }, { on := 11, ground := .phase }, { on := 12, ground := .phase }, { on := 13, ground := .phase }, { on := 14, ground := .phase }], guard := none } := by rw [← c.hops]; rfl
theorem huRb (c : CRb ops a0 W0 B2 B4 B5 k xs) : dstB ops = true := by rw [← c.hops]; kernel_rfl
theorem hoRb (c : CRb ops a0 W0 B2 B4 B5 k xs) : ordB ops = true := by rw [← c.hops]; kernel_rfl
theorem hnRb (c : CRb ops a0 W0 B2 B4 B5 k xs) : ops.size = 16 := by rw [← c.hops]; rfl
theorem hdRb (c : CRb ops a0 W0 B2 B4 B5 k xs) : dsts ops = [10, 11, 12, 13, 14, 15, 16, 17, 18, 19, 20, 21, 22, 23] := by rw [← c.hops]; rfl
theorem oRb_2 (c : CRb ops a0 W0 B2 B4 B5 k xs) : oldB ops 2 = true := by rw [← c.hops]; kernel_rfl
theorem oRb_4 (c : CRb ops a0 W0 B2 B4 B5 k xs) : oldB ops 4 = true := by rw [← c.hops]; kernel_rfl
theorem oRb_5 (c : CRb ops a0 W0 B2 B4 B5 k xs) : oldB ops 5 = true := by rw [← c.hops]; kernel_rfl
theorem oRb_6 (c : CRb ops a0 W0 B2 B4 B5 k xs) : oldB ops 6 = true := by rw [← c.hops]; kernel_rfl
theorem ivRb (c : CRb ops a0 W0 B2 B4 B5 k xs) {l : Array Bool} {W W' : World} (h : IRb W0 B2 B4 B5 k xs l W) (hn : Nx W W') {i : Nat} (hi : i ≠ 14 ∧ i ≠ 15) : IRb W0 B2 B4 B5 k xs (l.setIfInBounds i true) W' := I2.step h Rt.nx Rt.nx hn hi
theorem nxRb (c : CRb ops a0 W0 B2 B4 B5 k xs) {l : Array Bool} {W : World} (h : IRb W0 B2 B4 B5 k xs l W) (h6 : l.getD 14 false = false) : Nx W0 W := h.nx h6
theorem sRb_0 (c : CRb ops a0 W0 B2 B4 B5 k xs) : Stp Try.prog ops Q a0 (KRb W0 B2 B4 B5 k xs) (IRb W0 B2 B4 B5 k xs) 0 := stp_val (huRb c) (hRb_0 c) rfl (by rw [c.hz]; decide) fun l a W hF hn hd => ⟨want_none rfl, by
    have nxa : Nx W (W.alloc (.cells #[] 40)) := (Nx.refl W).alloc _
    refine ⟨.slice (some ⟨W.heap.size, 0, none⟩) 0 0, W.alloc (.cells #[] 40), ?_, full_none W _ (nxRb c hF.inv (hF.off hn (hRb_14 c) (by rfl))).size, nxa, (ivRb c hF.inv nxa (i := 0) (by decide))⟩
    show (execOp a.eval _).run Try.prog W = _
    simp only [execOp]
    simp [go_sem]⟩
theorem sRb_1 (c : CRb ops a0 W0 B2 B4 B5 k xs) : Stp Try.prog ops Q a0 (KRb W0 B2 B4 B5 k xs) (IRb W0 B2 B4 B5 k xs) 1 := stp_val (huRb c) (hRb_1 c) rfl (by rw [c.hz]; decide) fun l a W hF hn hd => ⟨want_none rfl, by
    have e2 : a.eval (.tmp 2) = .pointer (some ⟨B2, 0, none⟩) := (hF.old (oRb_2 c)).trans c.z2
    refine ⟨.pointer (some ⟨B2, 0, none⟩), W, ?_, rfl, Nx.refl W, (ivRb c hF.inv (Nx.refl W) (i := 1) (by decide))⟩
    show (execOp a.eval _).run Try.prog W = _
    simp only [execOp, e2]
    simp [go_sem]⟩
theorem sRb_2 (c : CRb ops a0 W0 B2 B4 B5 k xs) : Stp Try.prog ops Q a0 (KRb W0 B2 B4 B5 k xs) (IRb W0 B2 B4 B5 k xs) 2 := stp_val (huRb c) (hRb_2 c) rfl (by rw [c.hz]; decide) fun l a W hF hn hd => ⟨want_none rfl, by
    have e11 : a.eval (.tmp 11) = .pointer (some ⟨B2, 0, none⟩) := by obtain ⟨v, e, p⟩ := hF.get (hRb_1 c) rfl (hd.at 1 (by rfl)); exact e.trans p
    have m := c.b2.at0 (nxRb c hF.inv (hF.off hn (hRb_14 c) (by rfl)))
    refine ⟨.slice none 0 0, W, ?_, rfl, Nx.refl W, (ivRb c hF.inv (Nx.refl W) (i := 2) (by decide))⟩
    show (execOp a.eval _).run Try.prog W = _
    simp only [execOp, e11]
    simp [go_sem, m]⟩
theorem sRb_3 (c : CRb ops a0 W0 B2 B4 B5 k xs) : Stp Try.prog ops Q a0 (KRb W0 B2 B4 B5 k xs) (IRb W0 B2 B4 B5 k xs) 3 := stp_val (huRb c) (hRb_3 c) rfl (by rw [c.hz]; decide) fun l a W hF hn hd => ⟨want_none rfl, by
    have e6 : a.eval (.tmp 6) = .int .i64 (k : Int) := (hF.old (oRb_6 c)).trans c.z6
    exact ⟨.int .i64 (k : Int), W, by show Result.ok (Next.value (a.eval _)) W = _; rw [e6], rfl, Nx.refl W, (ivRb c hF.inv (Nx.refl W) (i := 3) (by decide))⟩⟩
theorem sRb_4 (c : CRb ops a0 W0 B2 B4 B5 k xs) : Stp Try.prog ops Q a0 (KRb W0 B2 B4 B5 k xs) (IRb W0 B2 B4 B5 k xs) 4 := stp_val (huRb c) (hRb_4 c) rfl (by rw [c.hz]; decide) fun l a W hF hn hd => ⟨want_none rfl, by
    have e12 : a.eval (.tmp 12) = .slice none 0 0 := by obtain ⟨v, e, p⟩ := hF.get (hRb_2 c) rfl (hd.at 2 (by rfl)); exact e.trans p
    have e13 : a.eval (.tmp 13) = .int .i64 (k : Int) := by obtain ⟨v, e, p⟩ := hF.get (hRb_3 c) rfl (hd.at 3 (by rfl)); exact e.trans p
    rw [c.k0] at e13
    exact ⟨.slice none 0 0, W, run_lo0 rfl e12 e13, rfl, Nx.refl W, (ivRb c hF.inv (Nx.refl W) (i := 4) (by decide))⟩⟩
theorem sRb_5 (c : CRb ops a0 W0 B2 B4 B5 k xs) : Stp Try.prog ops Q a0 (KRb W0 B2 B4 B5 k xs) (IRb W0 B2 B4 B5 k xs) 5 := stp_val (huRb c) (hRb_5 c) rfl (by rw [c.hz]; decide) fun l a W hF hn hd => ⟨want_none rfl, by
    obtain ⟨v10, e10, p10⟩ := hF.get (hRb_0 c) rfl (hd.at 0 (by rfl))
    have p10 : Full W0.heap.size [] v10 W := p10
    have e14 : a.eval (.tmp 14) = .slice none 0 0 := by obtain ⟨v, e, p⟩ := hF.get (hRb_4 c) rfl (hd.at 4 (by rfl)); exact e.trans p
    obtain ⟨g0, n0, e0, hr0⟩ := p10
    subst e0
    obtain ⟨v', W', h1, hrow, hnx⟩ := run_appF (o := { dst := some 15, op := .call { callee := .builtin .append, args := #[.tmp 10, .tmp 14], argTypes := #[33, 33] }, type := 33, pos := "ref.go:88", after := #[{ on := 0, ground := .data }, { on := 4, ground := .data }], guard := none }) (.tmp 10) (.tmp 14) rfl W0.heap.size g0 n0 _ _ _ e10 e14 hr0 ((by rw [c.x0, List.take_nil]; exact ⟨none, 0, rfl, Nat.le_refl _, by omega, .inl rfl⟩ : RdC W (.slice none 0 0) ((xs.take k).map prOf))) (by rw [List.length_map]; have := c.xsn; simp only [List.length_take, List.length_nil]; omega) (nxRb c hF.inv (hF.off hn (hRb_14 c) (by rfl))).size
    exact ⟨v', W', h1, by rw [List.nil_append] at hrow; exact hrow, hnx, (ivRb c hF.inv hnx (i := 5) (by decide))⟩⟩
theorem sRb_6 (c : CRb ops a0 W0 B2 B4 B5 k xs) : Stp Try.prog ops Q a0 (KRb W0 B2 B4 B5 k xs) (IRb W0 B2 B4 B5 k xs) 6 := stp_val (huRb c) (hRb_6 c) rfl (by rw [c.hz]; decide) fun l a W hF hn hd => ⟨want_none rfl, by
    obtain ⟨v15, e15, p15⟩ := hF.get (hRb_5 c) rfl (hd.at 5 (by rfl))
    have p15 : Row W W0.heap.size v15 ((xs.take k).map prOf) := p15
    obtain ⟨A9, c9, e9⟩ := own_slice p15
    rw [e9] at e15
    exact ⟨_, W, run_build1 rfl e15, ⟨_, rfl, by rw [← e9]; exact p15.rdc, by rw [← e9]; exact p15.pln⟩, Nx.refl W, (ivRb c hF.inv (Nx.refl W) (i := 6) (by decide))⟩⟩
theorem sRb_7 (c : CRb ops a0 W0 B2 B4 B5 k xs) : Stp Try.prog ops Q a0 (KRb W0 B2 B4 B5 k xs) (IRb W0 B2 B4 B5 k xs) 7 := stp_val (huRb c) (hRb_7 c) rfl (by rw [c.hz]; decide) fun l a W hF hn hd => ⟨want_none rfl, by
    have nxa : Nx W (W.alloc (.cells #[] 40)) := (Nx.refl W).alloc _
    refine ⟨.slice (some ⟨W.heap.size, 0, none⟩) 0 0, W.alloc (.cells #[] 40), ?_, full_none W _ (nxRb c hF.inv (hF.off (hF.off hn (hRb_12 c) (by rfl)) (hRb_14 c) (by rfl))).size, nxa, (ivRb c hF.inv nxa (i := 7) (by decide))⟩
    show (execOp a.eval _).run Try.prog W = _
    simp only [execOp]
    simp [go_sem]⟩
theorem sRb_8 (c : CRb ops a0 W0 B2 B4 B5 k xs) : Stp Try.prog ops Q a0 (KRb W0 B2 B4 B5 k xs) (IRb W0 B2 B4 B5 k xs) 8 := stp_val (huRb c) (hRb_8 c) rfl (by rw [c.hz]; decide) fun l a W hF hn hd => ⟨want_none rfl, by
    have e2 : a.eval (.tmp 2) = .pointer (some ⟨B2, 0, none⟩) := (hF.old (oRb_2 c)).trans c.z2
    refine ⟨.pointer (some ⟨B2, 0, none⟩), W, ?_, rfl, Nx.refl W, (ivRb c hF.inv (Nx.refl W) (i := 8) (by decide))⟩
    show (execOp a.eval _).run Try.prog W = _
    simp only [execOp, e2]
    simp [go_sem]⟩
theorem sRb_9 (c : CRb ops a0 W0 B2 B4 B5 k xs) : Stp Try.prog ops Q a0 (KRb W0 B2 B4 B5 k xs) (IRb W0 B2 B4 B5 k xs) 9 := stp_val (huRb c) (hRb_9 c) rfl (by rw [c.hz]; decide) fun l a W hF hn hd => ⟨want_none rfl, by
    have e18 : a.eval (.tmp 18) = .pointer (some ⟨B2, 0, none⟩) := by obtain ⟨v, e, p⟩ := hF.get (hRb_8 c) rfl (hd.at 8 (by rfl)); exact e.trans p
    have m := c.b2.at0 (nxRb c hF.inv (hF.off (hF.off (hF.off hn (hRb_11 c) (by rfl)) (hRb_12 c) (by rfl)) (hRb_14 c) (by rfl)))
    refine ⟨.slice none 0 0, W, ?_, rfl, Nx.refl W, (ivRb c hF.inv (Nx.refl W) (i := 9) (by decide))⟩
    show (execOp a.eval _).run Try.prog W = _
    simp only [execOp, e18]
    simp [go_sem, m]⟩
theorem sRb_10 (c : CRb ops a0 W0 B2 B4 B5 k xs) : Stp Try.prog ops Q a0 (KRb W0 B2 B4 B5 k xs) (IRb W0 B2 B4 B5 k xs) 10 := stp_val (huRb c) (hRb_10 c) rfl (by rw [c.hz]; decide) fun l a W hF hn hd => ⟨want_none rfl, by
    have e6 : a.eval (.tmp 6) = .int .i64 (k : Int) := (hF.old (oRb_6 c)).trans c.z6
    exact ⟨.int .i64 (k : Int), W, by show Result.ok (Next.value (a.eval _)) W = _; rw [e6], rfl, Nx.refl W, (ivRb c hF.inv (Nx.refl W) (i := 10) (by decide))⟩⟩
theorem sRb_11 (c : CRb ops a0 W0 B2 B4 B5 k xs) : Stp Try.prog ops Q a0 (KRb W0 B2 B4 B5 k xs) (IRb W0 B2 B4 B5 k xs) 11 := stp_val (huRb c) (hRb_11 c) rfl (by rw [c.hz]; decide) fun l a W hF hn hd => ⟨want_none rfl, by
    have e19 : a.eval (.tmp 19) = .slice none 0 0 := by obtain ⟨v, e, p⟩ := hF.get (hRb_9 c) rfl (hd.at 9 (by rfl)); exact e.trans p
    have e20 : a.eval (.tmp 20) = .int .i64 (k : Int) := by obtain ⟨v, e, p⟩ := hF.get (hRb_10 c) rfl (hd.at 10 (by rfl)); exact e.trans p
    rw [c.k0] at e20
    exact ⟨.slice none 0 0, W, run_hi0 rfl e19 e20, rfl, Nx.refl W, (ivRb c hF.inv (Nx.refl W) (i := 11) (by decide))⟩⟩
theorem sRb_12 (c : CRb ops a0 W0 B2 B4 B5 k xs) : Stp Try.prog ops Q a0 (KRb W0 B2 B4 B5 k xs) (IRb W0 B2 B4 B5 k xs) 12 := stp_val (huRb c) (hRb_12 c) rfl (by rw [c.hz]; decide) fun l a W hF hn hd => ⟨want_none rfl, by
    obtain ⟨v17, e17, p17⟩ := hF.get (hRb_7 c) rfl (hd.at 7 (by rfl))
    have p17 : Full W0.heap.size [] v17 W := p17
    have e21 : a.eval (.tmp 21) = .slice none 0 0 := by obtain ⟨v, e, p⟩ := hF.get (hRb_11 c) rfl (hd.at 11 (by rfl)); exact e.trans p
    obtain ⟨g0, n0, e0, hr0⟩ := p17
    subst e0
    obtain ⟨v', W', h1, hrow, hnx⟩ := run_appF (o := { dst := some 22, op := .call { callee := .builtin .append, args := #[.tmp 17, .tmp 21], argTypes := #[33, 33] }, type := 33, pos := "ref.go:88", after := #[{ on := 7, ground := .data }, { on := 11, ground := .data }, { on := 5, ground := .chain }], guard := none }) (.tmp 17) (.tmp 21) rfl W0.heap.size g0 n0 _ _ _ e17 e21 hr0 ((by rw [c.x0, List.drop_nil]; exact ⟨none, 0, rfl, Nat.le_refl _, by omega, .inl rfl⟩ : RdC W (.slice none 0 0) ((xs.drop k).map prOf))) (by rw [List.length_map]; have := c.xsn; simp only [List.length_drop, List.length_nil]; omega) (nxRb c hF.inv (hF.off hn (hRb_14 c) (by rfl))).size
    exact ⟨v', W', h1, by rw [List.nil_append] at hrow; exact hrow, hnx, (ivRb c hF.inv hnx (i := 12) (by decide))⟩⟩
theorem sRb_13 (c : CRb ops a0 W0 B2 B4 B5 k xs) : Stp Try.prog ops Q a0 (KRb W0 B2 B4 B5 k xs) (IRb W0 B2 B4 B5 k xs) 13 := stp_val (huRb c) (hRb_13 c) rfl (by rw [c.hz]; decide) fun l a W hF hn hd => ⟨want_none rfl, by
    obtain ⟨v22, e22, p22⟩ := hF.get (hRb_12 c) rfl (hd.at 12 (by rfl))
    have p22 : Row W W0.heap.size v22 ((xs.drop k).map prOf) := p22
    obtain ⟨A9, c9, e9⟩ := own_slice p22
    rw [e9] at e22
    exact ⟨_, W, run_build1 rfl e22, ⟨_, rfl, by rw [← e9]; exact p22.rdc, by rw [← e9]; exact p22.pln⟩, Nx.refl W, (ivRb c hF.inv (Nx.refl W) (i := 13) (by decide))⟩⟩
theorem sRb_14 (c : CRb ops a0 W0 B2 B4 B5 k xs) : Stp Try.prog ops Q a0 (KRb W0 B2 B4 B5 k xs) (IRb W0 B2 B4 B5 k xs) 14 := stp_skip (hRb_14 c) rfl fun l a W hF hn hd => ⟨want_none rfl, by
    have e4 : a.eval (.tmp 4) = .pointer (some ⟨B4, 0, none⟩) := (hF.old (oRb_4 c)).trans c.z4
    obtain ⟨v16, e16, p16⟩ := hF.get (hRb_6 c) rfl (hd.at 6 (by rfl))
    have p16 : Rt W v16 (xs.take k) := p16
    have h2 := hF.off hn (hRb_15 c) (by rfl)
    have nx := hF.inv.nx hn
    obtain ⟨A1, n1, c1, rfl⟩ := Rt.agg p16
    have hb := c.b4.nx nx
    have m := c.b4.at0 nx
    have f := hb.frozen 0
    refine ⟨W.setCell ⟨B4, 0, none⟩ (.slice A1 n1 c1), ?_, fun j v hne hl => match j, hne, hl with | 0, hne, hl => fun h => Full.store h (by first | exact c.b4.lt | exact c.b5.lt) _ | 1, hne, hl => fun h => h | 2, hne, hl => fun h => h | 3, hne, hl => fun h => h | 4, hne, hl => fun h => h | 5, hne, hl => fun h => Row.store h (by first | exact c.b4.lt | exact c.b5.lt) _ | 6, hne, hl => fun h => Rt.store h hb (fun s h => by cases h) _ | 7, hne, hl => fun h => Full.store h (by first | exact c.b4.lt | exact c.b5.lt) _ | 8, hne, hl => fun h => h | 9, hne, hl => fun h => h | 10, hne, hl => fun h => h | 11, hne, hl => fun h => h | 12, hne, hl => fun h => Row.store h (by first | exact c.b4.lt | exact c.b5.lt) _ | 13, hne, hl => fun h => Rt.store h hb (fun s h => by cases h) _ | 14, hne, hl => fun h => absurd rfl hne | 15, hne, hl => fun h => h | (k + 16), _, _ => fun _ => trivial, hF.inv.putB c.b4 c.ne (by decide) (hF.lt (hRb_14 c)) hn h2 (p16.store hb (fun s h => by cases h) _)⟩
    show (execOp a.eval _).run Try.prog W = _
    simp only [execOp, e4, e16]
    simp [go_sem, m, f]⟩
theorem sRb_15 (c : CRb ops a0 W0 B2 B4 B5 k xs) : Stp Try.prog ops Q a0 (KRb W0 B2 B4 B5 k xs) (IRb W0 B2 B4 B5 k xs) 15 := stp_skip (hRb_15 c) rfl fun l a W hF hn hd => ⟨want_none rfl, by
    have e5 : a.eval (.tmp 5) = .pointer (some ⟨B5, 0, none⟩) := (hF.old (oRb_5 c)).trans c.z5
    obtain ⟨v23, e23, p23⟩ := hF.get (hRb_13 c) rfl (hd.at 13 (by rfl))
    have p23 : Rt W v23 (xs.drop k) := p23
    have h1 := hd.at 14 (by rfl)
    obtain ⟨A1, n1, c1, rfl⟩ := Rt.agg p23
    have hb := hF.inv.c0 hn
    have m : W.cell? ⟨B5, 0, none⟩ = some _ := hb.at0 (Nx.refl W)
    have f := hb.frozen 0
    refine ⟨W.setCell ⟨B5, 0, none⟩ (.slice A1 n1 c1), ?_, fun j v hne hl => match j, hne, hl with | 0, hne, hl => fun h => Full.store h (by first | exact c.b4.lt | exact c.b5.lt) _ | 1, hne, hl => fun h => h | 2, hne, hl => fun h => h | 3, hne, hl => fun h => h | 4, hne, hl => fun h => h | 5, hne, hl => fun h => Row.store h (by first | exact c.b4.lt | exact c.b5.lt) _ | 6, hne, hl => fun h => Rt.store h hb (fun s h => by cases h) _ | 7, hne, hl => fun h => Full.store h (by first | exact c.b4.lt | exact c.b5.lt) _ | 8, hne, hl => fun h => h | 9, hne, hl => fun h => h | 10, hne, hl => fun h => h | 11, hne, hl => fun h => h | 12, hne, hl => fun h => Row.store h (by first | exact c.b4.lt | exact c.b5.lt) _ | 13, hne, hl => fun h => Rt.store h hb (fun s h => by cases h) _ | 14, hne, hl => fun h => h | 15, hne, hl => fun h => absurd rfl hne | (k + 16), _, _ => fun _ => trivial, hF.inv.putC c.ne (by decide) (hF.lt (hRb_15 c)) h1 hn (fun v h => Rt.store h hb (fun s h => by cases h) _) (p23.store hb (fun s h => by cases h) _)⟩
    show (execOp a.eval _).run Try.prog W = _
    simp only [execOp, e5, e23]
    simp [go_sem, m, f]⟩
theorem rgRb (c : CRb ops a0 W0 B2 B4 B5 k xs) {id : Nat} (fin : ∀ (x10 x11 x12 x13 x14 x15 x16 x17 x18 x19 x20 x21 x22 x23 : Value) (W : World), Chd (fun k => k = B4 ∨ k = B5) W0 W → (∃ u, BlkIs W B4 36 #[u] ∧ Rt W (.agg #[u]) (xs.take k)) → (∃ u, BlkIs W B5 36 #[u] ∧ Rt W (.agg #[u]) (xs.drop k)) → Q .normal { tmps := ((((((((((((((a0.tmps.setIfInBounds 10 x10).setIfInBounds 11 x11).setIfInBounds 12 x12).setIfInBounds 13 x13).setIfInBounds 14 x14).setIfInBounds 15 x15).setIfInBounds 16 x16).setIfInBounds 17 x17).setIfInBounds 18 x18).setIfInBounds 19 x19).setIfInBounds 20 x20).setIfInBounds 21 x21).setIfInBounds 22 x22).setIfInBounds 23 x23), defers := a0.defers } W) : (Code.region id ops true).wp Try.prog Q a0 W0 := by
  refine flows (K := (KRb W0 B2 B4 B5 k xs)) (Inv := (IRb W0 B2 B4 B5 k xs)) (by kernel_rfl) (hoRb c) (hnRb c) (I2.start c.b4 c.b5) ⟨⟨⟨⟨⟨⟨⟨⟨⟨⟨⟨⟨⟨⟨⟨⟨trivial, sRb_0 c⟩, sRb_1 c⟩, sRb_2 c⟩, sRb_3 c⟩, sRb_4 c⟩, sRb_5 c⟩, sRb_6 c⟩, sRb_7 c⟩, sRb_8 c⟩, sRb_9 c⟩, sRb_10 c⟩, sRb_11 c⟩, sRb_12 c⟩, sRb_13 c⟩, sRb_14 c⟩, sRb_15 c⟩ fun l a W hF hl => ?_
  have f := hF.form
  rw [hdRb c] at f
  simp only [List.foldl] at f
  rw [f]
  exact fin _ _ _ _ _ _ _ _ _ _ _ _ _ _ W  hF.inv.chd (hF.inv.b (hl 14 (by decide))) (hF.inv.c (hl 15 (by decide)))
theorem rgRbL {t0_ t1_ t2_ t3_ t4_ t5_ t6_ t7_ t8_ t9_ t10_ t11_ t12_ t13_ t14_ t15_ t16_ t17_ t18_ t19_ t20_ t21_ t22_ t23_ : Value} {d_ : List Deferred} (c : CRb ops { tmps := #[t0_, t1_, t2_, t3_, t4_, t5_, t6_, t7_, t8_, t9_, t10_, t11_, t12_, t13_, t14_, t15_, t16_, t17_, t18_, t19_, t20_, t21_, t22_, t23_], defers := d_ } W0 B2 B4 B5 k xs) {id : Nat} (fin : ∀ (x10 x11 x12 x13 x14 x15 x16 x17 x18 x19 x20 x21 x22 x23 : Value) (W : World), Chd (fun k => k = B4 ∨ k = B5) W0 W → (∃ u, BlkIs W B4 36 #[u] ∧ Rt W (.agg #[u]) (xs.take k)) → (∃ u, BlkIs W B5 36 #[u] ∧ Rt W (.agg #[u]) (xs.drop k)) → Q .normal { tmps := #[t0_, t1_, t2_, t3_, t4_, t5_, t6_, t7_, t8_, t9_, x10, x11, x12, x13, x14, x15, x16, x17, x18, x19, x20, x21, x22, x23], defers := d_ } W) : (Code.region id ops true).wp Try.prog Q { tmps := #[t0_, t1_, t2_, t3_, t4_, t5_, t6_, t7_, t8_, t9_, t10_, t11_, t12_, t13_, t14_, t15_, t16_, t17_, t18_, t19_, t20_, t21_, t22_, t23_], defers := d_ } W0 := by
  refine rgRb c ?_
  intro x10 x11 x12 x13 x14 x15 x16 x17 x18 x19 x20 x21 x22 x23 W
  have e : ((((((((((((((#[t0_, t1_, t2_, t3_, t4_, t5_, t6_, t7_, t8_, t9_, t10_, t11_, t12_, t13_, t14_, t15_, t16_, t17_, t18_, t19_, t20_, t21_, t22_, t23_].setIfInBounds 10 x10).setIfInBounds 11 x11).setIfInBounds 12 x12).setIfInBounds 13 x13).setIfInBounds 14 x14).setIfInBounds 15 x15).setIfInBounds 16 x16).setIfInBounds 17 x17).setIfInBounds 18 x18).setIfInBounds 19 x19).setIfInBounds 20 x20).setIfInBounds 21 x21).setIfInBounds 22 x22).setIfInBounds 23 x23) = #[t0_, t1_, t2_, t3_, t4_, t5_, t6_, t7_, t8_, t9_, x10, x11, x12, x13, x14, x15, x16, x17, x18, x19, x20, x21, x22, x23] := by kernel_rfl
  have f := fin x10 x11 x12 x13 x14 x15 x16 x17 x18 x19 x20 x21 x22 x23 W
  rw [← e] at f
  exact f
end
end Go.Proofs.Ytekcphpeaoaaaaa

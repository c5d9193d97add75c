/- Package table: TableChanges, what it asks of the changes: a region that draws its order. Made by wip/tools/rg_ch14.py. -/
import Derived.Test.YtekcphpeaoaaaaaTbRg
namespace Go.Proofs.Ytekcphpeaoaaaaa
open Go.RowKit Go.Shelf
set_option linter.unusedVariables false
set_option maxRecDepth 100000
section
variable {ops : Array Oper} {a0 : Act} {W0 : World} {Q : Exit → Act → World → Prop} {B7 B8 B11 : Nat} {u7 u8 u11 : Option Addr} {xs ys : List KV}
structure CCa (ops : Array Oper) (a0 : Act) (W0 : World) (B7 B8 B11 : Nat) (u7 u8 u11 : Option Addr) (xs ys : List KV) : Prop where
  hops : rops Try.f7 14 = ops
  hz : a0.tmps.size = 151
  z7 : a0.eval (.tmp 7) = .pointer (some ⟨B7, 0, none⟩)
  z8 : a0.eval (.tmp 8) = .pointer (some ⟨B8, 0, none⟩)
  z11 : a0.eval (.tmp 11) = .pointer (some ⟨B11, 0, none⟩)
  b7 : BlkIs W0 B7 24 #[.pointer u7]
  b8 : BlkIs W0 B8 24 #[.pointer u8]
  b11 : BlkIs W0 B11 24 #[.pointer u11]
  t7 : Tb W0 (.agg #[.pointer u7]) xs
  t8 : Tb W0 (.agg #[.pointer u8]) ys
  t11 : Tb W0 (.agg #[.pointer u11]) ys
  xsn : xs.length ≤ 100000000
  ysn : ys.length ≤ 100000000
def KCa (W0 : World) (B7 B8 B11 : Nat) (u7 u8 u11 : Option Addr) (xs ys : List KV) : List Kd := [Kd.eq (.agg #[.pointer u11]), Kd.of (fun v W => Rd W v ((nodes ys).map prOf)) Rd.nx, Kd.eq (.agg #[.pointer u8]), Kd.of (fun v W => Rd W v ((nodes ys).map prOf)) Rd.nx, Kd.eq (.bool true), Kd.eq (.bool false), Kd.eq (.bool false), Kd.eq (.agg #[.pointer u7]), Kd.eq (.agg #[.pointer u7]), Kd.of (fun v W => Rd W v ([])) Rd.nx, Kd.eq (.int .i64 0), Kd.eq (.bool false), Kd.eq (.bool false), Kd.eq (.bool false), Kd.eq (.agg #[.pointer u11]), Kd.eq (.agg #[.pointer u8]), Kd.of (fun v W => Rd W v ([])) Rd.nx, Kd.eq (.int .i64 0), Kd.eq (.bool false), Kd.eq (.bool false)]
/-- What is kept. -/
abbrev ICa (W0 : World) (B7 B8 B11 : Nat) (u7 u8 u11 : Option Addr) (xs ys : List KV) : Array Bool → World → Prop := (fun _ W => Nx W0 W)
theorem hCa_0 (c : CCa ops a0 W0 B7 B8 B11 u7 u8 u11 xs ys) : ops[0]? = some { dst := some 63, op := .load 24 (.tmp 11), type := 24, pos := "law.go:168", after := #[], guard := none } := by rw [← c.hops]; rfl
theorem hCa_1 (c : CCa ops a0 W0 B7 B8 B11 u7 u8 u11 xs ys) : ops[1]? = some { dst := some 64, op := .call { callee := .value (.func 29), args := #[.tmp 63], argTypes := #[24] }, type := 33, pos := "law.go:168", after := #[{ on := 0, ground := .data }], guard := none } := by rw [← c.hops]; rfl
theorem hCa_2 (c : CCa ops a0 W0 B7 B8 B11 u7 u8 u11 xs ys) : ops[2]? = some { dst := some 65, op := .load 24 (.tmp 8), type := 24, pos := "law.go:168", after := #[], guard := none } := by rw [← c.hops]; rfl
theorem hCa_3 (c : CCa ops a0 W0 B7 B8 B11 u7 u8 u11 xs ys) : ops[3]? = some { dst := some 66, op := .call { callee := .value (.func 29), args := #[.tmp 65], argTypes := #[24] }, type := 33, pos := "law.go:168", after := #[{ on := 2, ground := .data }, { on := 1, ground := .chain }], guard := none } := by rw [← c.hops]; rfl
theorem hCa_4 (c : CCa ops a0 W0 B7 B8 B11 u7 u8 u11 xs ys) : ops[4]? = some { dst := some 67, op := .call { callee := .value (.func 22), args := #[.tmp 64, .tmp 66], argTypes := #[33, 33] }, type := 4, pos := "law.go:168", after := #[{ on := 1, ground := .data }, { on := 3, ground := .data }, { on := 3, ground := .chain }], guard := none } := by rw [← c.hops]; rfl
theorem hCa_5 (c : CCa ops a0 W0 B7 B8 B11 u7 u8 u11 xs ys) : ops[5]? = some { dst := some 68, op := .unOp .not 4 (.tmp 67), type := 4, pos := "law.go:168", after := #[{ on := 4, ground := .data }], guard := none } := by rw [← c.hops]; rfl
theorem hCa_6 (c : CCa ops a0 W0 B7 B8 B11 u7 u8 u11 xs ys) : ops[6]? = some { dst := some 69, op := .move (.tmp 68), type := 4, pos := "law.go:168", after := #[{ on := 5, ground := .data }, { on := 4, ground := .chain }], guard := none } := by rw [← c.hops]; rfl
theorem hCa_7 (c : CCa ops a0 W0 B7 B8 B11 u7 u8 u11 xs ys) : ops[7]? = some { dst := some 70, op := .load 24 (.tmp 7), type := 24, pos := "law.go:168", after := #[{ on := 6, ground := .guard }], guard := some (6, false) } := by rw [← c.hops]; rfl
theorem hCa_8 (c : CCa ops a0 W0 B7 B8 B11 u7 u8 u11 xs ys) : ops[8]? = some { dst := some 71, op := .load 24 (.tmp 7), type := 24, pos := "law.go:168", after := #[{ on := 6, ground := .guard }], guard := some (6, false) } := by rw [← c.hops]; rfl
theorem hCa_9 (c : CCa ops a0 W0 B7 B8 B11 u7 u8 u11 xs ys) : ops[9]? = some { dst := some 72, op := .call { callee := .value (.func 27), args := #[.tmp 70, .tmp 71], argTypes := #[24, 24] }, type := 33, pos := "law.go:168", after := #[{ on := 7, ground := .data }, { on := 8, ground := .data }, { on := 6, ground := .chain }, { on := 6, ground := .guard }], guard := some (6, false) } := by rw [← c.hops]; rfl
theorem hCa_10 (c : CCa ops a0 W0 B7 B8 B11 u7 u8 u11 xs ys) : ops[10]? = some { dst := some 73, op := .call { callee := .builtin .len, args := #[.tmp 72], argTypes := #[33] }, type := 3, pos := "law.go:168", after := #[{ on := 9, ground := .data }, { on := 6, ground := .guard }], guard := some (6, false) } := by rw [← c.hops]; rfl
theorem hCa_11 (c : CCa ops a0 W0 B7 B8 B11 u7 u8 u11 xs ys) : ops[11]? = some { dst := some 74, op := .binOp .neq 3 (.tmp 73) (.const (.int .i64 0)) 3, type := 4, pos := "law.go:168", after := #[{ on := 10, ground := .data }, { on := 6, ground := .guard }], guard := some (6, false) } := by rw [← c.hops]; rfl
theorem hCa_12 (c : CCa ops a0 W0 B7 B8 B11 u7 u8 u11 xs ys) : ops[12]? = some { dst := some 75, op := .pick (.tmp 69) (.const (.bool true)) (.tmp 74), type := 4, pos := "law.go:168", after := #[{ on := 6, ground := .data }, { on := 11, ground := .data }], guard := none } := by rw [← c.hops]; rfl
theorem hCa_13 (c : CCa ops a0 W0 B7 B8 B11 u7 u8 u11 xs ys) : ops[13]? = some { dst := some 76, op := .move (.tmp 75), type := 4, pos := "law.go:168", after := #[{ on := 12, ground := .data }, { on := 9, ground := .chain }], guard := none } := by rw [← c.hops]; rfl
theorem hCa_14 (c : CCa ops a0 W0 B7 B8 B11 u7 u8 u11 xs ys) : ops[14]? = some { dst := some 77, op := .load 24 (.tmp 11), type := 24, pos := "law.go:168", after := #[{ on := 13, ground := .guard }], guard := some (13, false) } := by rw [← c.hops]; rfl
theorem hCa_15 (c : CCa ops a0 W0 B7 B8 B11 u7 u8 u11 xs ys) : ops[15]? = some { dst := some 78, op := .load 24 (.tmp 8), type := 24, pos := "law.go:168", after := #[{ on := 13, ground := .guard }], guard := some (13, false) } := by rw [← c.hops]; rfl
theorem hCa_16 (c : CCa ops a0 W0 B7 B8 B11 u7 u8 u11 xs ys) : ops[16]? = some { dst := some 79, op := .call { callee := .value (.func 27), args := #[.tmp 77, .tmp 78], argTypes := #[24, 24] }, type := 33, pos := "law.go:168", after := #[{ on := 14, ground := .data }, { on := 15, ground := .data }, { on := 13, ground := .chain }, { on := 13, ground := .guard }], guard := some (13, false) } := by rw [← c.hops]; rfl
theorem hCa_17 (c : CCa ops a0 W0 B7 B8 B11 u7 u8 u11 xs ys) : ops[17]? = some { dst := some 80, op := .call { callee := .builtin .len, args := #[.tmp 79], argTypes := #[33] }, type := 3, pos := "law.go:168", after := #[{ on := 16, ground := .data }, { on := 13, ground := .guard }], guard := some (13, false) } := by rw [← c.hops]; rfl
theorem hCa_18 (c : CCa ops a0 W0 B7 B8 B11 u7 u8 u11 xs ys) : ops[18]? = some { dst := some 81, op := .binOp .neq 3 (.tmp 80) (.const (.int .i64 0)) 3, type := 4, pos := "law.go:168", after := #[{ on := 17, ground := .data }, { on := 13, ground := .guard }], guard := some (13, false) } := by rw [← c.hops]; rfl
theorem hCa_19 (c : CCa ops a0 W0 B7 B8 B11 u7 u8 u11 xs ys) : ops[19]? = some { dst := some 82, op := .pick (.tmp 76) (.const (.bool true)) (.tmp 81), type := 4, pos := "law.go:168", after := #[{ on := 13, ground := .data }, { on := 18, ground := .data }], guard := none } := by rw [← c.hops]; rfl
theorem huCa (c : CCa ops a0 W0 B7 B8 B11 u7 u8 u11 xs ys) : dstB ops = true := by rw [← c.hops]; kernel_rfl
theorem hoCa (c : CCa ops a0 W0 B7 B8 B11 u7 u8 u11 xs ys) : ordB ops = true := by rw [← c.hops]; kernel_rfl
theorem hnCa (c : CCa ops a0 W0 B7 B8 B11 u7 u8 u11 xs ys) : ops.size = 20 := by rw [← c.hops]; rfl
theorem hdCa (c : CCa ops a0 W0 B7 B8 B11 u7 u8 u11 xs ys) : dsts ops = [63, 64, 65, 66, 67, 68, 69, 70, 71, 72, 73, 74, 75, 76, 77, 78, 79, 80, 81, 82] := by rw [← c.hops]; rfl
theorem oCa_7 (c : CCa ops a0 W0 B7 B8 B11 u7 u8 u11 xs ys) : oldB ops 7 = true := by rw [← c.hops]; kernel_rfl
theorem oCa_8 (c : CCa ops a0 W0 B7 B8 B11 u7 u8 u11 xs ys) : oldB ops 8 = true := by rw [← c.hops]; kernel_rfl
theorem oCa_11 (c : CCa ops a0 W0 B7 B8 B11 u7 u8 u11 xs ys) : oldB ops 11 = true := by rw [← c.hops]; kernel_rfl
theorem sCa_0 (c : CCa ops a0 W0 B7 B8 B11 u7 u8 u11 xs ys) : Stp Try.prog ops Q a0 (KCa W0 B7 B8 B11 u7 u8 u11 xs ys) (ICa W0 B7 B8 B11 u7 u8 u11 xs ys) 0 := stp_val (huCa c) (hCa_0 c) rfl (by rw [c.hz]; decide) fun l a W hF hn hd => ⟨want_none rfl, by
    have e11 : a.eval (.tmp 11) = .pointer (some ⟨B11, 0, none⟩) := (hF.old (oCa_11 c)).trans c.z11
    have m := c.b11.at0 hF.inv
    refine ⟨.agg #[.pointer u11], W, ?_, rfl, Nx.refl W, hF.inv⟩
    show (execOp a.eval _).run Try.prog W = _
    simp only [execOp, e11]
    simp [go_sem, m]⟩
theorem sCa_1 (c : CCa ops a0 W0 B7 B8 B11 u7 u8 u11 xs ys) : Stp Try.prog ops Q a0 (KCa W0 B7 B8 B11 u7 u8 u11 xs ys) (ICa W0 B7 B8 B11 u7 u8 u11 xs ys) 1 := stp_call (huCa c) (hCa_1 c) rfl (by rw [c.hz]; decide) fun l a W hF hn hd => ⟨want_none rfl, by
    have e63 : a.eval (.tmp 63) = .agg #[.pointer u11] := by obtain ⟨v, e, p⟩ := hF.get (hCa_0 c) rfl (hd.at 0 (by rfl)); exact e.trans p
    refine ⟨29, #[.agg #[.pointer u11]], _, run_enter rfl (by simp only [List.map_toArray, List.map_cons, List.map_nil, e63]) (eval_func _ _) (enters_of Try.func29 (by kernel_rfl) rfl), tnodes_any W _ ys (c.t11.nx hF.inv) c.ysn, ?_⟩
    rintro e W' ⟨r, rfl, hrow, hn2⟩; exact ⟨_, rfl, hrow.rd, hn2, (hF.inv.trans hn2)⟩⟩
theorem sCa_2 (c : CCa ops a0 W0 B7 B8 B11 u7 u8 u11 xs ys) : Stp Try.prog ops Q a0 (KCa W0 B7 B8 B11 u7 u8 u11 xs ys) (ICa W0 B7 B8 B11 u7 u8 u11 xs ys) 2 := stp_val (huCa c) (hCa_2 c) rfl (by rw [c.hz]; decide) fun l a W hF hn hd => ⟨want_none rfl, by
    have e8 : a.eval (.tmp 8) = .pointer (some ⟨B8, 0, none⟩) := (hF.old (oCa_8 c)).trans c.z8
    have m := c.b8.at0 hF.inv
    refine ⟨.agg #[.pointer u8], W, ?_, rfl, Nx.refl W, hF.inv⟩
    show (execOp a.eval _).run Try.prog W = _
    simp only [execOp, e8]
    simp [go_sem, m]⟩
theorem sCa_3 (c : CCa ops a0 W0 B7 B8 B11 u7 u8 u11 xs ys) : Stp Try.prog ops Q a0 (KCa W0 B7 B8 B11 u7 u8 u11 xs ys) (ICa W0 B7 B8 B11 u7 u8 u11 xs ys) 3 := stp_call (huCa c) (hCa_3 c) rfl (by rw [c.hz]; decide) fun l a W hF hn hd => ⟨want_none rfl, by
    have e65 : a.eval (.tmp 65) = .agg #[.pointer u8] := by obtain ⟨v, e, p⟩ := hF.get (hCa_2 c) rfl (hd.at 2 (by rfl)); exact e.trans p
    refine ⟨29, #[.agg #[.pointer u8]], _, run_enter rfl (by simp only [List.map_toArray, List.map_cons, List.map_nil, e65]) (eval_func _ _) (enters_of Try.func29 (by kernel_rfl) rfl), tnodes_any W _ ys (c.t8.nx hF.inv) c.ysn, ?_⟩
    rintro e W' ⟨r, rfl, hrow, hn2⟩; exact ⟨_, rfl, hrow.rd, hn2, (hF.inv.trans hn2)⟩⟩
theorem sCa_4 (c : CCa ops a0 W0 B7 B8 B11 u7 u8 u11 xs ys) : Stp Try.prog ops Q a0 (KCa W0 B7 B8 B11 u7 u8 u11 xs ys) (ICa W0 B7 B8 B11 u7 u8 u11 xs ys) 4 := stp_call (huCa c) (hCa_4 c) rfl (by rw [c.hz]; decide) fun l a W hF hn hd => ⟨want_none rfl, by
    obtain ⟨v64, e64, p64⟩ := hF.get (hCa_1 c) rfl (hd.at 1 (by rfl))
    have p64 : Rd W v64 ((nodes ys).map prOf) := p64
    obtain ⟨v66, e66, p66⟩ := hF.get (hCa_3 c) rfl (hd.at 3 (by rfl))
    have p66 : Rd W v66 ((nodes ys).map prOf) := p66
    refine ⟨22, #[v64, v66], _, run_enter rfl (by simp only [List.map_toArray, List.map_cons, List.map_nil, e64, e66]) (eval_func _ _) (enters_of Try.func22 (by kernel_rfl) rfl), pairs_any W _ _ _ _ p64 p66 (by rw [List.length_map, nodes_length]; have := c.ysn; omega), ?_⟩
    rintro e W' ⟨rfl, hn2⟩; exact ⟨_, rfl, by rw [decide_eq_true rfl]; rfl, hn2, (hF.inv.trans hn2)⟩⟩
theorem sCa_5 (c : CCa ops a0 W0 B7 B8 B11 u7 u8 u11 xs ys) : Stp Try.prog ops Q a0 (KCa W0 B7 B8 B11 u7 u8 u11 xs ys) (ICa W0 B7 B8 B11 u7 u8 u11 xs ys) 5 := stp_val (huCa c) (hCa_5 c) rfl (by rw [c.hz]; decide) fun l a W hF hn hd => ⟨want_none rfl, by
    have e67 : a.eval (.tmp 67) = .bool true := by obtain ⟨v, e, p⟩ := hF.get (hCa_4 c) rfl (hd.at 4 (by rfl)); exact e.trans p
    refine ⟨.bool false, W, ?_, rfl, Nx.refl W, hF.inv⟩
    show (execOp a.eval _).run Try.prog W = _
    simp only [execOp, e67]
    simp [go_sem]⟩
theorem sCa_6 (c : CCa ops a0 W0 B7 B8 B11 u7 u8 u11 xs ys) : Stp Try.prog ops Q a0 (KCa W0 B7 B8 B11 u7 u8 u11 xs ys) (ICa W0 B7 B8 B11 u7 u8 u11 xs ys) 6 := stp_val (huCa c) (hCa_6 c) rfl (by rw [c.hz]; decide) fun l a W hF hn hd => ⟨want_none rfl, by
    have e68 : a.eval (.tmp 68) = .bool false := by obtain ⟨v, e, p⟩ := hF.get (hCa_5 c) rfl (hd.at 5 (by rfl)); exact e.trans p
    exact ⟨.bool false, W, by show Result.ok (Next.value (a.eval _)) W = _; rw [e68], rfl, Nx.refl W, hF.inv⟩⟩
theorem sCa_7 (c : CCa ops a0 W0 B7 B8 B11 u7 u8 u11 xs ys) : Stp Try.prog ops Q a0 (KCa W0 B7 B8 B11 u7 u8 u11 xs ys) (ICa W0 B7 B8 B11 u7 u8 u11 xs ys) 7 := stp_val (huCa c) (hCa_7 c) rfl (by rw [c.hz]; decide) fun l a W hF hn hd => ⟨hF.want (k := 6) (b := false) rfl (hCa_6 c) rfl (hd.at 6 (by rfl)) (fun v h => h), by
    have e7 : a.eval (.tmp 7) = .pointer (some ⟨B7, 0, none⟩) := (hF.old (oCa_7 c)).trans c.z7
    have m := c.b7.at0 hF.inv
    refine ⟨.agg #[.pointer u7], W, ?_, rfl, Nx.refl W, hF.inv⟩
    show (execOp a.eval _).run Try.prog W = _
    simp only [execOp, e7]
    simp [go_sem, m]⟩
theorem sCa_8 (c : CCa ops a0 W0 B7 B8 B11 u7 u8 u11 xs ys) : Stp Try.prog ops Q a0 (KCa W0 B7 B8 B11 u7 u8 u11 xs ys) (ICa W0 B7 B8 B11 u7 u8 u11 xs ys) 8 := stp_val (huCa c) (hCa_8 c) rfl (by rw [c.hz]; decide) fun l a W hF hn hd => ⟨hF.want (k := 6) (b := false) rfl (hCa_6 c) rfl (hd.at 6 (by rfl)) (fun v h => h), by
    have e7 : a.eval (.tmp 7) = .pointer (some ⟨B7, 0, none⟩) := (hF.old (oCa_7 c)).trans c.z7
    have m := c.b7.at0 hF.inv
    refine ⟨.agg #[.pointer u7], W, ?_, rfl, Nx.refl W, hF.inv⟩
    show (execOp a.eval _).run Try.prog W = _
    simp only [execOp, e7]
    simp [go_sem, m]⟩
theorem sCa_9 (c : CCa ops a0 W0 B7 B8 B11 u7 u8 u11 xs ys) : Stp Try.prog ops Q a0 (KCa W0 B7 B8 B11 u7 u8 u11 xs ys) (ICa W0 B7 B8 B11 u7 u8 u11 xs ys) 9 := stp_call (huCa c) (hCa_9 c) rfl (by rw [c.hz]; decide) fun l a W hF hn hd => ⟨hF.want (k := 6) (b := false) rfl (hCa_6 c) rfl (hd.at 6 (by rfl)) (fun v h => h), by
    have e70 : a.eval (.tmp 70) = .agg #[.pointer u7] := by obtain ⟨v, e, p⟩ := hF.get (hCa_7 c) rfl (hd.at 7 (by rfl)); exact e.trans p
    have e71 : a.eval (.tmp 71) = .agg #[.pointer u7] := by obtain ⟨v, e, p⟩ := hF.get (hCa_8 c) rfl (hd.at 8 (by rfl)); exact e.trans p
    refine ⟨27, #[.agg #[.pointer u7], .agg #[.pointer u7]], _, run_enter rfl (by simp only [List.map_toArray, List.map_cons, List.map_nil, e70, e71]) (eval_func _ _) (enters_of Try.func27 (by kernel_rfl) rfl), tchanges_any W _ _ xs xs (c.t7.nx hF.inv) (c.t7.nx hF.inv) c.xsn c.xsn, ?_⟩
    rintro e W' ⟨r, rfl, hrow, hn2⟩; refine ⟨_, rfl, ?_, hn2, (hF.inv.trans hn2)⟩; rw [chg_self c.t7.srt] at hrow; exact hrow.rd⟩
theorem sCa_10 (c : CCa ops a0 W0 B7 B8 B11 u7 u8 u11 xs ys) : Stp Try.prog ops Q a0 (KCa W0 B7 B8 B11 u7 u8 u11 xs ys) (ICa W0 B7 B8 B11 u7 u8 u11 xs ys) 10 := stp_val (huCa c) (hCa_10 c) rfl (by rw [c.hz]; decide) fun l a W hF hn hd => ⟨hF.want (k := 6) (b := false) rfl (hCa_6 c) rfl (hd.at 6 (by rfl)) (fun v h => h), by
    obtain ⟨v72, e72, p72⟩ := hF.get (hCa_9 c) rfl (hd.at 9 (by rfl))
    have p72 : Rd W v72 ([]) := p72
    obtain ⟨A0, c0, rfl⟩ := Rd.none p72
    exact ⟨.int .i64 0, W, run_len rfl e72 Try.underlying33, rfl, Nx.refl W, hF.inv⟩⟩
theorem sCa_11 (c : CCa ops a0 W0 B7 B8 B11 u7 u8 u11 xs ys) : Stp Try.prog ops Q a0 (KCa W0 B7 B8 B11 u7 u8 u11 xs ys) (ICa W0 B7 B8 B11 u7 u8 u11 xs ys) 11 := stp_val (huCa c) (hCa_11 c) rfl (by rw [c.hz]; decide) fun l a W hF hn hd => ⟨hF.want (k := 6) (b := false) rfl (hCa_6 c) rfl (hd.at 6 (by rfl)) (fun v h => h), by
    have e73 : a.eval (.tmp 73) = .int .i64 0 := by obtain ⟨v, e, p⟩ := hF.get (hCa_10 c) rfl (hd.at 10 (by rfl)); exact e.trans p
    refine ⟨.bool false, W, ?_, rfl, Nx.refl W, hF.inv⟩
    show (execOp a.eval _).run Try.prog W = _
    simp only [execOp, e73]
    simp [go_sem]⟩
theorem sCa_12 (c : CCa ops a0 W0 B7 B8 B11 u7 u8 u11 xs ys) : Stp Try.prog ops Q a0 (KCa W0 B7 B8 B11 u7 u8 u11 xs ys) (ICa W0 B7 B8 B11 u7 u8 u11 xs ys) 12 := stp_val (huCa c) (hCa_12 c) rfl (by rw [c.hz]; decide) fun l a W hF hn hd => ⟨want_none rfl, by
    have e69 : a.eval (.tmp 69) = .bool false := by obtain ⟨v, e, p⟩ := hF.get (hCa_6 c) rfl (hd.at 6 (by rfl)); exact e.trans p
    have e74 : a.eval (.tmp 74) = .bool false := by obtain ⟨v, e, p⟩ := hF.get (hCa_11 c) rfl (hd.at 11 (by rfl)); exact e.trans p
    refine ⟨.bool false, W, ?_, rfl, Nx.refl W, hF.inv⟩
    show (execOp a.eval _).run Try.prog W = _
    simp only [execOp, e69, e74]
    simp [go_sem]⟩
theorem sCa_13 (c : CCa ops a0 W0 B7 B8 B11 u7 u8 u11 xs ys) : Stp Try.prog ops Q a0 (KCa W0 B7 B8 B11 u7 u8 u11 xs ys) (ICa W0 B7 B8 B11 u7 u8 u11 xs ys) 13 := stp_val (huCa c) (hCa_13 c) rfl (by rw [c.hz]; decide) fun l a W hF hn hd => ⟨want_none rfl, by
    have e75 : a.eval (.tmp 75) = .bool false := by obtain ⟨v, e, p⟩ := hF.get (hCa_12 c) rfl (hd.at 12 (by rfl)); exact e.trans p
    exact ⟨.bool false, W, by show Result.ok (Next.value (a.eval _)) W = _; rw [e75], rfl, Nx.refl W, hF.inv⟩⟩
theorem sCa_14 (c : CCa ops a0 W0 B7 B8 B11 u7 u8 u11 xs ys) : Stp Try.prog ops Q a0 (KCa W0 B7 B8 B11 u7 u8 u11 xs ys) (ICa W0 B7 B8 B11 u7 u8 u11 xs ys) 14 := stp_val (huCa c) (hCa_14 c) rfl (by rw [c.hz]; decide) fun l a W hF hn hd => ⟨hF.want (k := 13) (b := false) rfl (hCa_13 c) rfl (hd.at 13 (by rfl)) (fun v h => h), by
    have e11 : a.eval (.tmp 11) = .pointer (some ⟨B11, 0, none⟩) := (hF.old (oCa_11 c)).trans c.z11
    have m := c.b11.at0 hF.inv
    refine ⟨.agg #[.pointer u11], W, ?_, rfl, Nx.refl W, hF.inv⟩
    show (execOp a.eval _).run Try.prog W = _
    simp only [execOp, e11]
    simp [go_sem, m]⟩
theorem sCa_15 (c : CCa ops a0 W0 B7 B8 B11 u7 u8 u11 xs ys) : Stp Try.prog ops Q a0 (KCa W0 B7 B8 B11 u7 u8 u11 xs ys) (ICa W0 B7 B8 B11 u7 u8 u11 xs ys) 15 := stp_val (huCa c) (hCa_15 c) rfl (by rw [c.hz]; decide) fun l a W hF hn hd => ⟨hF.want (k := 13) (b := false) rfl (hCa_13 c) rfl (hd.at 13 (by rfl)) (fun v h => h), by
    have e8 : a.eval (.tmp 8) = .pointer (some ⟨B8, 0, none⟩) := (hF.old (oCa_8 c)).trans c.z8
    have m := c.b8.at0 hF.inv
    refine ⟨.agg #[.pointer u8], W, ?_, rfl, Nx.refl W, hF.inv⟩
    show (execOp a.eval _).run Try.prog W = _
    simp only [execOp, e8]
    simp [go_sem, m]⟩
theorem sCa_16 (c : CCa ops a0 W0 B7 B8 B11 u7 u8 u11 xs ys) : Stp Try.prog ops Q a0 (KCa W0 B7 B8 B11 u7 u8 u11 xs ys) (ICa W0 B7 B8 B11 u7 u8 u11 xs ys) 16 := stp_call (huCa c) (hCa_16 c) rfl (by rw [c.hz]; decide) fun l a W hF hn hd => ⟨hF.want (k := 13) (b := false) rfl (hCa_13 c) rfl (hd.at 13 (by rfl)) (fun v h => h), by
    have e77 : a.eval (.tmp 77) = .agg #[.pointer u11] := by obtain ⟨v, e, p⟩ := hF.get (hCa_14 c) rfl (hd.at 14 (by rfl)); exact e.trans p
    have e78 : a.eval (.tmp 78) = .agg #[.pointer u8] := by obtain ⟨v, e, p⟩ := hF.get (hCa_15 c) rfl (hd.at 15 (by rfl)); exact e.trans p
    refine ⟨27, #[.agg #[.pointer u11], .agg #[.pointer u8]], _, run_enter rfl (by simp only [List.map_toArray, List.map_cons, List.map_nil, e77, e78]) (eval_func _ _) (enters_of Try.func27 (by kernel_rfl) rfl), tchanges_any W _ _ ys ys (c.t11.nx hF.inv) (c.t8.nx hF.inv) c.ysn c.ysn, ?_⟩
    rintro e W' ⟨r, rfl, hrow, hn2⟩; refine ⟨_, rfl, ?_, hn2, (hF.inv.trans hn2)⟩; rw [chg_self c.t11.srt] at hrow; exact hrow.rd⟩
theorem sCa_17 (c : CCa ops a0 W0 B7 B8 B11 u7 u8 u11 xs ys) : Stp Try.prog ops Q a0 (KCa W0 B7 B8 B11 u7 u8 u11 xs ys) (ICa W0 B7 B8 B11 u7 u8 u11 xs ys) 17 := stp_val (huCa c) (hCa_17 c) rfl (by rw [c.hz]; decide) fun l a W hF hn hd => ⟨hF.want (k := 13) (b := false) rfl (hCa_13 c) rfl (hd.at 13 (by rfl)) (fun v h => h), by
    obtain ⟨v79, e79, p79⟩ := hF.get (hCa_16 c) rfl (hd.at 16 (by rfl))
    have p79 : Rd W v79 ([]) := p79
    obtain ⟨A0, c0, rfl⟩ := Rd.none p79
    exact ⟨.int .i64 0, W, run_len rfl e79 Try.underlying33, rfl, Nx.refl W, hF.inv⟩⟩
theorem sCa_18 (c : CCa ops a0 W0 B7 B8 B11 u7 u8 u11 xs ys) : Stp Try.prog ops Q a0 (KCa W0 B7 B8 B11 u7 u8 u11 xs ys) (ICa W0 B7 B8 B11 u7 u8 u11 xs ys) 18 := stp_val (huCa c) (hCa_18 c) rfl (by rw [c.hz]; decide) fun l a W hF hn hd => ⟨hF.want (k := 13) (b := false) rfl (hCa_13 c) rfl (hd.at 13 (by rfl)) (fun v h => h), by
    have e80 : a.eval (.tmp 80) = .int .i64 0 := by obtain ⟨v, e, p⟩ := hF.get (hCa_17 c) rfl (hd.at 17 (by rfl)); exact e.trans p
    refine ⟨.bool false, W, ?_, rfl, Nx.refl W, hF.inv⟩
    show (execOp a.eval _).run Try.prog W = _
    simp only [execOp, e80]
    simp [go_sem]⟩
theorem sCa_19 (c : CCa ops a0 W0 B7 B8 B11 u7 u8 u11 xs ys) : Stp Try.prog ops Q a0 (KCa W0 B7 B8 B11 u7 u8 u11 xs ys) (ICa W0 B7 B8 B11 u7 u8 u11 xs ys) 19 := stp_val (huCa c) (hCa_19 c) rfl (by rw [c.hz]; decide) fun l a W hF hn hd => ⟨want_none rfl, by
    have e76 : a.eval (.tmp 76) = .bool false := by obtain ⟨v, e, p⟩ := hF.get (hCa_13 c) rfl (hd.at 13 (by rfl)); exact e.trans p
    have e81 : a.eval (.tmp 81) = .bool false := by obtain ⟨v, e, p⟩ := hF.get (hCa_18 c) rfl (hd.at 18 (by rfl)); exact e.trans p
    refine ⟨.bool false, W, ?_, rfl, Nx.refl W, hF.inv⟩
    show (execOp a.eval _).run Try.prog W = _
    simp only [execOp, e76, e81]
    simp [go_sem]⟩
theorem rgCa (c : CCa ops a0 W0 B7 B8 B11 u7 u8 u11 xs ys) {id : Nat} (fin : ∀ (x63 x64 x65 x66 x67 x68 x69 x70 x71 x72 x73 x74 x75 x76 x77 x78 x79 x80 x81 : Value) (W : World), Nx W0 W → Q .normal { tmps := ((((((((((((((((((((a0.tmps.setIfInBounds 63 x63).setIfInBounds 64 x64).setIfInBounds 65 x65).setIfInBounds 66 x66).setIfInBounds 67 x67).setIfInBounds 68 x68).setIfInBounds 69 x69).setIfInBounds 70 x70).setIfInBounds 71 x71).setIfInBounds 72 x72).setIfInBounds 73 x73).setIfInBounds 74 x74).setIfInBounds 75 x75).setIfInBounds 76 x76).setIfInBounds 77 x77).setIfInBounds 78 x78).setIfInBounds 79 x79).setIfInBounds 80 x80).setIfInBounds 81 x81).setIfInBounds 82 (.bool false)), defers := a0.defers } W) : (Code.region id ops true).wp Try.prog Q a0 W0 := by
  refine flows (K := (KCa W0 B7 B8 B11 u7 u8 u11 xs ys)) (Inv := (ICa W0 B7 B8 B11 u7 u8 u11 xs ys)) (by kernel_rfl) (hoCa c) (hnCa c) (Nx.refl W0).drew ⟨⟨⟨⟨⟨⟨⟨⟨⟨⟨⟨⟨⟨⟨⟨⟨⟨⟨⟨⟨trivial, sCa_0 c⟩, sCa_1 c⟩, sCa_2 c⟩, sCa_3 c⟩, sCa_4 c⟩, sCa_5 c⟩, sCa_6 c⟩, sCa_7 c⟩, sCa_8 c⟩, sCa_9 c⟩, sCa_10 c⟩, sCa_11 c⟩, sCa_12 c⟩, sCa_13 c⟩, sCa_14 c⟩, sCa_15 c⟩, sCa_16 c⟩, sCa_17 c⟩, sCa_18 c⟩, sCa_19 c⟩ fun l a W hF hl => ?_
  have f := hF.form
  rw [hdCa c] at f
  simp only [List.foldl] at f
  have q82 : a.tmps.getD 82 undef = .bool false := by obtain ⟨v, e, p⟩ := hF.get (hCa_19 c) rfl (hl 19 (by decide)); exact e.trans p
  rw [q82] at f
  rw [f]
  exact fin _ _ _ _ _ _ _ _ _ _ _ _ _ _ _ _ _ _ _ W  hF.inv
theorem rgCaL {t0_ t1_ t2_ t3_ t4_ t5_ t6_ t7_ t8_ t9_ t10_ t11_ t12_ t13_ t14_ t15_ t16_ t17_ t18_ t19_ t20_ t21_ t22_ t23_ t24_ t25_ t26_ t27_ t28_ t29_ t30_ t31_ t32_ t33_ t34_ t35_ t36_ t37_ t38_ t39_ t40_ t41_ t42_ t43_ t44_ t45_ t46_ t47_ t48_ t49_ t50_ t51_ t52_ t53_ t54_ t55_ t56_ t57_ t58_ t59_ t60_ t61_ t62_ t63_ t64_ t65_ t66_ t67_ t68_ t69_ t70_ t71_ t72_ t73_ t74_ t75_ t76_ t77_ t78_ t79_ t80_ t81_ t82_ t83_ t84_ t85_ t86_ t87_ t88_ t89_ t90_ t91_ t92_ t93_ t94_ t95_ t96_ t97_ t98_ t99_ t100_ t101_ t102_ t103_ t104_ t105_ t106_ t107_ t108_ t109_ t110_ t111_ t112_ t113_ t114_ t115_ t116_ t117_ t118_ t119_ t120_ t121_ t122_ t123_ t124_ t125_ t126_ t127_ t128_ t129_ t130_ t131_ t132_ t133_ t134_ t135_ t136_ t137_ t138_ t139_ t140_ t141_ t142_ t143_ t144_ t145_ t146_ t147_ t148_ t149_ t150_ : Value} {d_ : List Deferred} (c : CCa ops { tmps := #[t0_, t1_, t2_, t3_, t4_, t5_, t6_, t7_, t8_, t9_, t10_, t11_, t12_, t13_, t14_, t15_, t16_, t17_, t18_, t19_, t20_, t21_, t22_, t23_, t24_, t25_, t26_, t27_, t28_, t29_, t30_, t31_, t32_, t33_, t34_, t35_, t36_, t37_, t38_, t39_, t40_, t41_, t42_, t43_, t44_, t45_, t46_, t47_, t48_, t49_, t50_, t51_, t52_, t53_, t54_, t55_, t56_, t57_, t58_, t59_, t60_, t61_, t62_, t63_, t64_, t65_, t66_, t67_, t68_, t69_, t70_, t71_, t72_, t73_, t74_, t75_, t76_, t77_, t78_, t79_, t80_, t81_, t82_, t83_, t84_, t85_, t86_, t87_, t88_, t89_, t90_, t91_, t92_, t93_, t94_, t95_, t96_, t97_, t98_, t99_, t100_, t101_, t102_, t103_, t104_, t105_, t106_, t107_, t108_, t109_, t110_, t111_, t112_, t113_, t114_, t115_, t116_, t117_, t118_, t119_, t120_, t121_, t122_, t123_, t124_, t125_, t126_, t127_, t128_, t129_, t130_, t131_, t132_, t133_, t134_, t135_, t136_, t137_, t138_, t139_, t140_, t141_, t142_, t143_, t144_, t145_, t146_, t147_, t148_, t149_, t150_], defers := d_ } W0 B7 B8 B11 u7 u8 u11 xs ys) {id : Nat} (fin : ∀ (x63 x64 x65 x66 x67 x68 x69 x70 x71 x72 x73 x74 x75 x76 x77 x78 x79 x80 x81 : Value) (W : World), Nx W0 W → Q .normal { tmps := #[t0_, t1_, t2_, t3_, t4_, t5_, t6_, t7_, t8_, t9_, t10_, t11_, t12_, t13_, t14_, t15_, t16_, t17_, t18_, t19_, t20_, t21_, t22_, t23_, t24_, t25_, t26_, t27_, t28_, t29_, t30_, t31_, t32_, t33_, t34_, t35_, t36_, t37_, t38_, t39_, t40_, t41_, t42_, t43_, t44_, t45_, t46_, t47_, t48_, t49_, t50_, t51_, t52_, t53_, t54_, t55_, t56_, t57_, t58_, t59_, t60_, t61_, t62_, x63, x64, x65, x66, x67, x68, x69, x70, x71, x72, x73, x74, x75, x76, x77, x78, x79, x80, x81, (.bool false), t83_, t84_, t85_, t86_, t87_, t88_, t89_, t90_, t91_, t92_, t93_, t94_, t95_, t96_, t97_, t98_, t99_, t100_, t101_, t102_, t103_, t104_, t105_, t106_, t107_, t108_, t109_, t110_, t111_, t112_, t113_, t114_, t115_, t116_, t117_, t118_, t119_, t120_, t121_, t122_, t123_, t124_, t125_, t126_, t127_, t128_, t129_, t130_, t131_, t132_, t133_, t134_, t135_, t136_, t137_, t138_, t139_, t140_, t141_, t142_, t143_, t144_, t145_, t146_, t147_, t148_, t149_, t150_], defers := d_ } W) : (Code.region id ops true).wp Try.prog Q { tmps := #[t0_, t1_, t2_, t3_, t4_, t5_, t6_, t7_, t8_, t9_, t10_, t11_, t12_, t13_, t14_, t15_, t16_, t17_, t18_, t19_, t20_, t21_, t22_, t23_, t24_, t25_, t26_, t27_, t28_, t29_, t30_, t31_, t32_, t33_, t34_, t35_, t36_, t37_, t38_, t39_, t40_, t41_, t42_, t43_, t44_, t45_, t46_, t47_, t48_, t49_, t50_, t51_, t52_, t53_, t54_, t55_, t56_, t57_, t58_, t59_, t60_, t61_, t62_, t63_, t64_, t65_, t66_, t67_, t68_, t69_, t70_, t71_, t72_, t73_, t74_, t75_, t76_, t77_, t78_, t79_, t80_, t81_, t82_, t83_, t84_, t85_, t86_, t87_, t88_, t89_, t90_, t91_, t92_, t93_, t94_, t95_, t96_, t97_, t98_, t99_, t100_, t101_, t102_, t103_, t104_, t105_, t106_, t107_, t108_, t109_, t110_, t111_, t112_, t113_, t114_, t115_, t116_, t117_, t118_, t119_, t120_, t121_, t122_, t123_, t124_, t125_, t126_, t127_, t128_, t129_, t130_, t131_, t132_, t133_, t134_, t135_, t136_, t137_, t138_, t139_, t140_, t141_, t142_, t143_, t144_, t145_, t146_, t147_, t148_, t149_, t150_], defers := d_ } W0 := by
  refine rgCa c ?_
  intro x63 x64 x65 x66 x67 x68 x69 x70 x71 x72 x73 x74 x75 x76 x77 x78 x79 x80 x81 W
  have e : ((((((((((((((((((((#[t0_, t1_, t2_, t3_, t4_, t5_, t6_, t7_, t8_, t9_, t10_, t11_, t12_, t13_, t14_, t15_, t16_, t17_, t18_, t19_, t20_, t21_, t22_, t23_, t24_, t25_, t26_, t27_, t28_, t29_, t30_, t31_, t32_, t33_, t34_, t35_, t36_, t37_, t38_, t39_, t40_, t41_, t42_, t43_, t44_, t45_, t46_, t47_, t48_, t49_, t50_, t51_, t52_, t53_, t54_, t55_, t56_, t57_, t58_, t59_, t60_, t61_, t62_, t63_, t64_, t65_, t66_, t67_, t68_, t69_, t70_, t71_, t72_, t73_, t74_, t75_, t76_, t77_, t78_, t79_, t80_, t81_, t82_, t83_, t84_, t85_, t86_, t87_, t88_, t89_, t90_, t91_, t92_, t93_, t94_, t95_, t96_, t97_, t98_, t99_, t100_, t101_, t102_, t103_, t104_, t105_, t106_, t107_, t108_, t109_, t110_, t111_, t112_, t113_, t114_, t115_, t116_, t117_, t118_, t119_, t120_, t121_, t122_, t123_, t124_, t125_, t126_, t127_, t128_, t129_, t130_, t131_, t132_, t133_, t134_, t135_, t136_, t137_, t138_, t139_, t140_, t141_, t142_, t143_, t144_, t145_, t146_, t147_, t148_, t149_, t150_].setIfInBounds 63 x63).setIfInBounds 64 x64).setIfInBounds 65 x65).setIfInBounds 66 x66).setIfInBounds 67 x67).setIfInBounds 68 x68).setIfInBounds 69 x69).setIfInBounds 70 x70).setIfInBounds 71 x71).setIfInBounds 72 x72).setIfInBounds 73 x73).setIfInBounds 74 x74).setIfInBounds 75 x75).setIfInBounds 76 x76).setIfInBounds 77 x77).setIfInBounds 78 x78).setIfInBounds 79 x79).setIfInBounds 80 x80).setIfInBounds 81 x81).setIfInBounds 82 (.bool false)) = #[t0_, t1_, t2_, t3_, t4_, t5_, t6_, t7_, t8_, t9_, t10_, t11_, t12_, t13_, t14_, t15_, t16_, t17_, t18_, t19_, t20_, t21_, t22_, t23_, t24_, t25_, t26_, t27_, t28_, t29_, t30_, t31_, t32_, t33_, t34_, t35_, t36_, t37_, t38_, t39_, t40_, t41_, t42_, t43_, t44_, t45_, t46_, t47_, t48_, t49_, t50_, t51_, t52_, t53_, t54_, t55_, t56_, t57_, t58_, t59_, t60_, t61_, t62_, x63, x64, x65, x66, x67, x68, x69, x70, x71, x72, x73, x74, x75, x76, x77, x78, x79, x80, x81, (.bool false), t83_, t84_, t85_, t86_, t87_, t88_, t89_, t90_, t91_, t92_, t93_, t94_, t95_, t96_, t97_, t98_, t99_, t100_, t101_, t102_, t103_, t104_, t105_, t106_, t107_, t108_, t109_, t110_, t111_, t112_, t113_, t114_, t115_, t116_, t117_, t118_, t119_, t120_, t121_, t122_, t123_, t124_, t125_, t126_, t127_, t128_, t129_, t130_, t131_, t132_, t133_, t134_, t135_, t136_, t137_, t138_, t139_, t140_, t141_, t142_, t143_, t144_, t145_, t146_, t147_, t148_, t149_, t150_] := by kernel_rfl
  have f := fin x63 x64 x65 x66 x67 x68 x69 x70 x71 x72 x73 x74 x75 x76 x77 x78 x79 x80 x81 W
  rw [← e] at f
  exact f
end
end Go.Proofs.Ytekcphpeaoaaaaa

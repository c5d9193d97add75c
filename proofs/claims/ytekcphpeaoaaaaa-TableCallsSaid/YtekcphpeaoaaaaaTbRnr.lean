/- Package table, the reference: nodes, its regions that draw their order. Made by wip/tools/rg_nod.py. -/
import Derived.Test.YtekcphpeaoaaaaaTbRc
namespace Go.Proofs.Ytekcphpeaoaaaaa
open Go.RowKit Go.Shelf
set_option linter.unusedVariables false
set_option maxRecDepth 100000
section
variable {ops : Array Oper} {a0 : Act} {W0 : World} {Q : Exit → Act → World → Prop} {b o n c_ i t : Nat} {ki kt : Str}
structure CNa (ops : Array Oper) (a0 : Act) (W0 : World) (b o n c_ i t : Nat) (ki kt : Str) : Prop where
  hops : rops Try.f54 7 = ops
  hz : a0.tmps.size = 44
  z0 : a0.eval (.tmp 0) = .slice (some ⟨b, o, none⟩) n c_
  z4 : a0.eval (.tmp 4) = .int .i64 (i : Int)
  z3 : a0.eval (.tmp 3) = .int .i64 (t : Int)
  ii : i < n
  tt : t < n
  mi : W0.cell? ⟨b, o + i * 3, none⟩ = some (.string (S ki))
  mt : W0.cell? ⟨b, o + t * 3, none⟩ = some (.string (S kt))
  li : ki.length ≤ 100000
  lt : kt.length ≤ 100000
def KNa (W0 : World) (b o n c_ i t : Nat) (ki kt : Str) : List Kd := [Kd.eq (.slice (some ⟨b, o, none⟩) n c_), Kd.eq (.int .i64 (i : Int)), Kd.eq (.pointer (some ⟨b, o + i * 3, none⟩)), Kd.eq (.pointer (some ⟨b, o + i * 3, none⟩)), Kd.eq (.string (S ki)), Kd.eq (.int .u32 (rank ki)), Kd.eq (.slice (some ⟨b, o, none⟩) n c_), Kd.eq (.int .i64 (t : Int)), Kd.eq (.pointer (some ⟨b, o + t * 3, none⟩)), Kd.eq (.pointer (some ⟨b, o + t * 3, none⟩)), Kd.eq (.string (S kt)), Kd.eq (.int .u32 (rank kt)), Kd.eq (.bool (decide (rank kt < rank ki)))]
/-- What is kept. -/
abbrev INa (W0 : World) (b o n c_ i t : Nat) (ki kt : Str) : Array Bool → World → Prop := (fun _ W => Nx W0 W)
theorem hNa_0 (c : CNa ops a0 W0 b o n c_ i t ki kt) : ops[0]? = some { dst := some 14, op := .move (.tmp 0), type := 33, pos := "ref.go:120", after := #[], guard := none } := by rw [← c.hops]; rfl
theorem hNa_1 (c : CNa ops a0 W0 b o n c_ i t ki kt) : ops[1]? = some { dst := some 15, op := .move (.tmp 4), type := 3, pos := "ref.go:120", after := #[], guard := none } := by rw [← c.hops]; rfl
theorem hNa_2 (c : CNa ops a0 W0 b o n c_ i t ki kt) : ops[2]? = some { dst := some 16, op := .indexAddr 33 (.tmp 14) (.tmp 15), type := 0, pos := "ref.go:120", after := #[{ on := 0, ground := .data }, { on := 1, ground := .data }], guard := none } := by rw [← c.hops]; rfl
theorem hNa_3 (c : CNa ops a0 W0 b o n c_ i t ki kt) : ops[3]? = some { dst := some 17, op := .fieldAddr 40 (.tmp 16) 0, type := 0, pos := "ref.go:120", after := #[{ on := 2, ground := .data }], guard := none } := by rw [← c.hops]; rfl
theorem hNa_4 (c : CNa ops a0 W0 b o n c_ i t ki kt) : ops[4]? = some { dst := some 18, op := .load 9 (.tmp 17), type := 9, pos := "ref.go:120", after := #[{ on := 3, ground := .data }], guard := none } := by rw [← c.hops]; rfl
theorem hNa_5 (c : CNa ops a0 W0 b o n c_ i t ki kt) : ops[5]? = some { dst := some 19, op := .call { callee := .value (.func 31), args := #[.tmp 18], argTypes := #[9] }, type := 29, pos := "ref.go:120", after := #[{ on := 4, ground := .data }], guard := none } := by rw [← c.hops]; rfl
theorem hNa_6 (c : CNa ops a0 W0 b o n c_ i t ki kt) : ops[6]? = some { dst := some 20, op := .move (.tmp 0), type := 33, pos := "ref.go:120", after := #[], guard := none } := by rw [← c.hops]; rfl
theorem hNa_7 (c : CNa ops a0 W0 b o n c_ i t ki kt) : ops[7]? = some { dst := some 21, op := .move (.tmp 3), type := 3, pos := "ref.go:120", after := #[], guard := none } := by rw [← c.hops]; rfl
theorem hNa_8 (c : CNa ops a0 W0 b o n c_ i t ki kt) : ops[8]? = some { dst := some 22, op := .indexAddr 33 (.tmp 20) (.tmp 21), type := 0, pos := "ref.go:120", after := #[{ on := 6, ground := .data }, { on := 7, ground := .data }], guard := none } := by rw [← c.hops]; rfl
theorem hNa_9 (c : CNa ops a0 W0 b o n c_ i t ki kt) : ops[9]? = some { dst := some 23, op := .fieldAddr 40 (.tmp 22) 0, type := 0, pos := "ref.go:120", after := #[{ on := 8, ground := .data }], guard := none } := by rw [← c.hops]; rfl
theorem hNa_10 (c : CNa ops a0 W0 b o n c_ i t ki kt) : ops[10]? = some { dst := some 24, op := .load 9 (.tmp 23), type := 9, pos := "ref.go:120", after := #[{ on := 9, ground := .data }], guard := none } := by rw [← c.hops]; rfl
theorem hNa_11 (c : CNa ops a0 W0 b o n c_ i t ki kt) : ops[11]? = some { dst := some 25, op := .call { callee := .value (.func 31), args := #[.tmp 24], argTypes := #[9] }, type := 29, pos := "ref.go:120", after := #[{ on := 10, ground := .data }, { on := 5, ground := .chain }], guard := none } := by rw [← c.hops]; rfl
theorem hNa_12 (c : CNa ops a0 W0 b o n c_ i t ki kt) : ops[12]? = some { dst := some 26, op := .binOp .gtr 29 (.tmp 19) (.tmp 25) 29, type := 4, pos := "ref.go:120", after := #[{ on := 5, ground := .data }, { on := 11, ground := .data }], guard := none } := by rw [← c.hops]; rfl
theorem huNa (c : CNa ops a0 W0 b o n c_ i t ki kt) : dstB ops = true := by rw [← c.hops]; kernel_rfl
theorem hoNa (c : CNa ops a0 W0 b o n c_ i t ki kt) : ordB ops = true := by rw [← c.hops]; kernel_rfl
theorem hnNa (c : CNa ops a0 W0 b o n c_ i t ki kt) : ops.size = 13 := by rw [← c.hops]; rfl
theorem hdNa (c : CNa ops a0 W0 b o n c_ i t ki kt) : dsts ops = [14, 15, 16, 17, 18, 19, 20, 21, 22, 23, 24, 25, 26] := by rw [← c.hops]; rfl
theorem oNa_0 (c : CNa ops a0 W0 b o n c_ i t ki kt) : oldB ops 0 = true := by rw [← c.hops]; kernel_rfl
theorem oNa_4 (c : CNa ops a0 W0 b o n c_ i t ki kt) : oldB ops 4 = true := by rw [← c.hops]; kernel_rfl
theorem oNa_3 (c : CNa ops a0 W0 b o n c_ i t ki kt) : oldB ops 3 = true := by rw [← c.hops]; kernel_rfl
theorem sNa_0 (c : CNa ops a0 W0 b o n c_ i t ki kt) : Stp Try.prog ops Q a0 (KNa W0 b o n c_ i t ki kt) (INa W0 b o n c_ i t ki kt) 0 := stp_val (huNa c) (hNa_0 c) rfl (by rw [c.hz]; decide) fun l a W hF hn hd => ⟨want_none rfl, by
    have e0 : a.eval (.tmp 0) = .slice (some ⟨b, o, none⟩) n c_ := (hF.old (oNa_0 c)).trans c.z0
    exact ⟨.slice (some ⟨b, o, none⟩) n c_, W, by show Result.ok (Next.value (a.eval _)) W = _; rw [e0], rfl, Nx.refl W, hF.inv⟩⟩
theorem sNa_1 (c : CNa ops a0 W0 b o n c_ i t ki kt) : Stp Try.prog ops Q a0 (KNa W0 b o n c_ i t ki kt) (INa W0 b o n c_ i t ki kt) 1 := stp_val (huNa c) (hNa_1 c) rfl (by rw [c.hz]; decide) fun l a W hF hn hd => ⟨want_none rfl, by
    have e4 : a.eval (.tmp 4) = .int .i64 (i : Int) := (hF.old (oNa_4 c)).trans c.z4
    exact ⟨.int .i64 (i : Int), W, by show Result.ok (Next.value (a.eval _)) W = _; rw [e4], rfl, Nx.refl W, hF.inv⟩⟩
theorem sNa_2 (c : CNa ops a0 W0 b o n c_ i t ki kt) : Stp Try.prog ops Q a0 (KNa W0 b o n c_ i t ki kt) (INa W0 b o n c_ i t ki kt) 2 := stp_val (huNa c) (hNa_2 c) rfl (by rw [c.hz]; decide) fun l a W hF hn hd => ⟨want_none rfl, by
    have e14 : a.eval (.tmp 14) = .slice (some ⟨b, o, none⟩) n c_ := by obtain ⟨v, e, p⟩ := hF.get (hNa_0 c) rfl (hd.at 0 (by rfl)); exact e.trans p
    have e15 : a.eval (.tmp 15) = .int .i64 (i : Int) := by obtain ⟨v, e, p⟩ := hF.get (hNa_1 c) rfl (hd.at 1 (by rfl)); exact e.trans p
    have x1 := c.ii; have x2 : (0 : Int) ≤ (i : Int) := Int.natCast_nonneg i; have x3 : ((i : Int) < (n : Int)) := by omega
    refine ⟨.pointer (some ⟨b, o + i * 3, none⟩), W, ?_, rfl, Nx.refl W, hF.inv⟩
    show (execOp a.eval _).run Try.prog W = _
    simp only [execOp, e14, e15]
    simp [go_sem, x2, x3]⟩
theorem sNa_3 (c : CNa ops a0 W0 b o n c_ i t ki kt) : Stp Try.prog ops Q a0 (KNa W0 b o n c_ i t ki kt) (INa W0 b o n c_ i t ki kt) 3 := stp_val (huNa c) (hNa_3 c) rfl (by rw [c.hz]; decide) fun l a W hF hn hd => ⟨want_none rfl, by
    have e16 : a.eval (.tmp 16) = .pointer (some ⟨b, o + i * 3, none⟩) := by obtain ⟨v, e, p⟩ := hF.get (hNa_2 c) rfl (hd.at 2 (by rfl)); exact e.trans p
    refine ⟨.pointer (some ⟨b, o + i * 3, none⟩), W, ?_, rfl, Nx.refl W, hF.inv⟩
    show (execOp a.eval _).run Try.prog W = _
    simp only [execOp, e16]
    simp [go_sem]⟩
theorem sNa_4 (c : CNa ops a0 W0 b o n c_ i t ki kt) : Stp Try.prog ops Q a0 (KNa W0 b o n c_ i t ki kt) (INa W0 b o n c_ i t ki kt) 4 := stp_val (huNa c) (hNa_4 c) rfl (by rw [c.hz]; decide) fun l a W hF hn hd => ⟨want_none rfl, by
    have e17 : a.eval (.tmp 17) = .pointer (some ⟨b, o + i * 3, none⟩) := by obtain ⟨v, e, p⟩ := hF.get (hNa_3 c) rfl (hd.at 3 (by rfl)); exact e.trans p
    have m := cell_nx c.mi hF.inv
    refine ⟨.string (S ki), W, ?_, rfl, Nx.refl W, hF.inv⟩
    show (execOp a.eval _).run Try.prog W = _
    simp only [execOp, e17]
    simp [go_sem, m]⟩
theorem sNa_5 (c : CNa ops a0 W0 b o n c_ i t ki kt) : Stp Try.prog ops Q a0 (KNa W0 b o n c_ i t ki kt) (INa W0 b o n c_ i t ki kt) 5 := stp_call (huNa c) (hNa_5 c) rfl (by rw [c.hz]; decide) fun l a W hF hn hd => ⟨want_none rfl, by
    have e18 : a.eval (.tmp 18) = .string (S ki) := by obtain ⟨v, e, p⟩ := hF.get (hNa_4 c) rfl (hd.at 4 (by rfl)); exact e.trans p
    refine ⟨31, #[.string (S ki)], _, run_enter rfl (by simp only [List.map_toArray, List.map_cons, List.map_nil, e18]) (eval_func _ _) (enters_of Try.func31 (by kernel_rfl) rfl), rrank_any W ki (by have := c.li; omega), ?_⟩
    rintro e W' ⟨rfl, rfl⟩; exact ⟨_, rfl, rfl, Nx.refl W, hF.inv⟩⟩
theorem sNa_6 (c : CNa ops a0 W0 b o n c_ i t ki kt) : Stp Try.prog ops Q a0 (KNa W0 b o n c_ i t ki kt) (INa W0 b o n c_ i t ki kt) 6 := stp_val (huNa c) (hNa_6 c) rfl (by rw [c.hz]; decide) fun l a W hF hn hd => ⟨want_none rfl, by
    have e0 : a.eval (.tmp 0) = .slice (some ⟨b, o, none⟩) n c_ := (hF.old (oNa_0 c)).trans c.z0
    exact ⟨.slice (some ⟨b, o, none⟩) n c_, W, by show Result.ok (Next.value (a.eval _)) W = _; rw [e0], rfl, Nx.refl W, hF.inv⟩⟩
theorem sNa_7 (c : CNa ops a0 W0 b o n c_ i t ki kt) : Stp Try.prog ops Q a0 (KNa W0 b o n c_ i t ki kt) (INa W0 b o n c_ i t ki kt) 7 := stp_val (huNa c) (hNa_7 c) rfl (by rw [c.hz]; decide) fun l a W hF hn hd => ⟨want_none rfl, by
    have e3 : a.eval (.tmp 3) = .int .i64 (t : Int) := (hF.old (oNa_3 c)).trans c.z3
    exact ⟨.int .i64 (t : Int), W, by show Result.ok (Next.value (a.eval _)) W = _; rw [e3], rfl, Nx.refl W, hF.inv⟩⟩
theorem sNa_8 (c : CNa ops a0 W0 b o n c_ i t ki kt) : Stp Try.prog ops Q a0 (KNa W0 b o n c_ i t ki kt) (INa W0 b o n c_ i t ki kt) 8 := stp_val (huNa c) (hNa_8 c) rfl (by rw [c.hz]; decide) fun l a W hF hn hd => ⟨want_none rfl, by
    have e20 : a.eval (.tmp 20) = .slice (some ⟨b, o, none⟩) n c_ := by obtain ⟨v, e, p⟩ := hF.get (hNa_6 c) rfl (hd.at 6 (by rfl)); exact e.trans p
    have e21 : a.eval (.tmp 21) = .int .i64 (t : Int) := by obtain ⟨v, e, p⟩ := hF.get (hNa_7 c) rfl (hd.at 7 (by rfl)); exact e.trans p
    have x1 := c.tt; have x2 : (0 : Int) ≤ (t : Int) := Int.natCast_nonneg t; have x3 : ((t : Int) < (n : Int)) := by omega
    refine ⟨.pointer (some ⟨b, o + t * 3, none⟩), W, ?_, rfl, Nx.refl W, hF.inv⟩
    show (execOp a.eval _).run Try.prog W = _
    simp only [execOp, e20, e21]
    simp [go_sem, x2, x3]⟩
theorem sNa_9 (c : CNa ops a0 W0 b o n c_ i t ki kt) : Stp Try.prog ops Q a0 (KNa W0 b o n c_ i t ki kt) (INa W0 b o n c_ i t ki kt) 9 := stp_val (huNa c) (hNa_9 c) rfl (by rw [c.hz]; decide) fun l a W hF hn hd => ⟨want_none rfl, by
    have e22 : a.eval (.tmp 22) = .pointer (some ⟨b, o + t * 3, none⟩) := by obtain ⟨v, e, p⟩ := hF.get (hNa_8 c) rfl (hd.at 8 (by rfl)); exact e.trans p
    refine ⟨.pointer (some ⟨b, o + t * 3, none⟩), W, ?_, rfl, Nx.refl W, hF.inv⟩
    show (execOp a.eval _).run Try.prog W = _
    simp only [execOp, e22]
    simp [go_sem]⟩
theorem sNa_10 (c : CNa ops a0 W0 b o n c_ i t ki kt) : Stp Try.prog ops Q a0 (KNa W0 b o n c_ i t ki kt) (INa W0 b o n c_ i t ki kt) 10 := stp_val (huNa c) (hNa_10 c) rfl (by rw [c.hz]; decide) fun l a W hF hn hd => ⟨want_none rfl, by
    have e23 : a.eval (.tmp 23) = .pointer (some ⟨b, o + t * 3, none⟩) := by obtain ⟨v, e, p⟩ := hF.get (hNa_9 c) rfl (hd.at 9 (by rfl)); exact e.trans p
    have m := cell_nx c.mt hF.inv
    refine ⟨.string (S kt), W, ?_, rfl, Nx.refl W, hF.inv⟩
    show (execOp a.eval _).run Try.prog W = _
    simp only [execOp, e23]
    simp [go_sem, m]⟩
theorem sNa_11 (c : CNa ops a0 W0 b o n c_ i t ki kt) : Stp Try.prog ops Q a0 (KNa W0 b o n c_ i t ki kt) (INa W0 b o n c_ i t ki kt) 11 := stp_call (huNa c) (hNa_11 c) rfl (by rw [c.hz]; decide) fun l a W hF hn hd => ⟨want_none rfl, by
    have e24 : a.eval (.tmp 24) = .string (S kt) := by obtain ⟨v, e, p⟩ := hF.get (hNa_10 c) rfl (hd.at 10 (by rfl)); exact e.trans p
    refine ⟨31, #[.string (S kt)], _, run_enter rfl (by simp only [List.map_toArray, List.map_cons, List.map_nil, e24]) (eval_func _ _) (enters_of Try.func31 (by kernel_rfl) rfl), rrank_any W kt (by have := c.lt; omega), ?_⟩
    rintro e W' ⟨rfl, rfl⟩; exact ⟨_, rfl, rfl, Nx.refl W, hF.inv⟩⟩
theorem sNa_12 (c : CNa ops a0 W0 b o n c_ i t ki kt) : Stp Try.prog ops Q a0 (KNa W0 b o n c_ i t ki kt) (INa W0 b o n c_ i t ki kt) 12 := stp_val (huNa c) (hNa_12 c) rfl (by rw [c.hz]; decide) fun l a W hF hn hd => ⟨want_none rfl, by
    have e19 : a.eval (.tmp 19) = .int .u32 (rank ki) := by obtain ⟨v, e, p⟩ := hF.get (hNa_5 c) rfl (hd.at 5 (by rfl)); exact e.trans p
    have e25 : a.eval (.tmp 25) = .int .u32 (rank kt) := by obtain ⟨v, e, p⟩ := hF.get (hNa_11 c) rfl (hd.at 11 (by rfl)); exact e.trans p
    refine ⟨.bool (decide (rank kt < rank ki)), W, ?_, rfl, Nx.refl W, hF.inv⟩
    show (execOp a.eval _).run Try.prog W = _
    simp only [execOp, e19, e25]
    simp [go_sem]⟩
theorem rgNa (c : CNa ops a0 W0 b o n c_ i t ki kt) {id : Nat} (fin : ∀ (x14 x15 x16 x17 x18 x19 x20 x21 x22 x23 x24 x25 : Value) (W : World), Nx W0 W → Q .normal { tmps := (((((((((((((a0.tmps.setIfInBounds 14 x14).setIfInBounds 15 x15).setIfInBounds 16 x16).setIfInBounds 17 x17).setIfInBounds 18 x18).setIfInBounds 19 x19).setIfInBounds 20 x20).setIfInBounds 21 x21).setIfInBounds 22 x22).setIfInBounds 23 x23).setIfInBounds 24 x24).setIfInBounds 25 x25).setIfInBounds 26 (.bool (decide (rank kt < rank ki)))), defers := a0.defers } W) : (Code.region id ops true).wp Try.prog Q a0 W0 := by
  refine flows (K := (KNa W0 b o n c_ i t ki kt)) (Inv := (INa W0 b o n c_ i t ki kt)) (by kernel_rfl) (hoNa c) (hnNa c) (Nx.refl W0).drew ⟨⟨⟨⟨⟨⟨⟨⟨⟨⟨⟨⟨⟨trivial, sNa_0 c⟩, sNa_1 c⟩, sNa_2 c⟩, sNa_3 c⟩, sNa_4 c⟩, sNa_5 c⟩, sNa_6 c⟩, sNa_7 c⟩, sNa_8 c⟩, sNa_9 c⟩, sNa_10 c⟩, sNa_11 c⟩, sNa_12 c⟩ fun l a W hF hl => ?_
  have f := hF.form
  rw [hdNa c] at f
  simp only [List.foldl] at f
  have q26 : a.tmps.getD 26 undef = .bool (decide (rank kt < rank ki)) := by obtain ⟨v, e, p⟩ := hF.get (hNa_12 c) rfl (hl 12 (by decide)); exact e.trans p
  rw [q26] at f
  rw [f]
  exact fin _ _ _ _ _ _ _ _ _ _ _ _ W  hF.inv
theorem rgNaL {t0_ t1_ t2_ t3_ t4_ t5_ t6_ t7_ t8_ t9_ t10_ t11_ t12_ t13_ t14_ t15_ t16_ t17_ t18_ t19_ t20_ t21_ t22_ t23_ t24_ t25_ t26_ t27_ t28_ t29_ t30_ t31_ t32_ t33_ t34_ t35_ t36_ t37_ t38_ t39_ t40_ t41_ t42_ t43_ : Value} {d_ : List Deferred} (c : CNa ops { tmps := #[t0_, t1_, t2_, t3_, t4_, t5_, t6_, t7_, t8_, t9_, t10_, t11_, t12_, t13_, t14_, t15_, t16_, t17_, t18_, t19_, t20_, t21_, t22_, t23_, t24_, t25_, t26_, t27_, t28_, t29_, t30_, t31_, t32_, t33_, t34_, t35_, t36_, t37_, t38_, t39_, t40_, t41_, t42_, t43_], defers := d_ } W0 b o n c_ i t ki kt) {id : Nat} (fin : ∀ (x14 x15 x16 x17 x18 x19 x20 x21 x22 x23 x24 x25 : Value) (W : World), Nx W0 W → Q .normal { tmps := #[t0_, t1_, t2_, t3_, t4_, t5_, t6_, t7_, t8_, t9_, t10_, t11_, t12_, t13_, x14, x15, x16, x17, x18, x19, x20, x21, x22, x23, x24, x25, (.bool (decide (rank kt < rank ki))), t27_, t28_, t29_, t30_, t31_, t32_, t33_, t34_, t35_, t36_, t37_, t38_, t39_, t40_, t41_, t42_, t43_], defers := d_ } W) : (Code.region id ops true).wp Try.prog Q { tmps := #[t0_, t1_, t2_, t3_, t4_, t5_, t6_, t7_, t8_, t9_, t10_, t11_, t12_, t13_, t14_, t15_, t16_, t17_, t18_, t19_, t20_, t21_, t22_, t23_, t24_, t25_, t26_, t27_, t28_, t29_, t30_, t31_, t32_, t33_, t34_, t35_, t36_, t37_, t38_, t39_, t40_, t41_, t42_, t43_], defers := d_ } W0 := by
  refine rgNa c ?_
  intro x14 x15 x16 x17 x18 x19 x20 x21 x22 x23 x24 x25 W
  have e : (((((((((((((#[t0_, t1_, t2_, t3_, t4_, t5_, t6_, t7_, t8_, t9_, t10_, t11_, t12_, t13_, t14_, t15_, t16_, t17_, t18_, t19_, t20_, t21_, t22_, t23_, t24_, t25_, t26_, t27_, t28_, t29_, t30_, t31_, t32_, t33_, t34_, t35_, t36_, t37_, t38_, t39_, t40_, t41_, t42_, t43_].setIfInBounds 14 x14).setIfInBounds 15 x15).setIfInBounds 16 x16).setIfInBounds 17 x17).setIfInBounds 18 x18).setIfInBounds 19 x19).setIfInBounds 20 x20).setIfInBounds 21 x21).setIfInBounds 22 x22).setIfInBounds 23 x23).setIfInBounds 24 x24).setIfInBounds 25 x25).setIfInBounds 26 (.bool (decide (rank kt < rank ki)))) = #[t0_, t1_, t2_, t3_, t4_, t5_, t6_, t7_, t8_, t9_, t10_, t11_, t12_, t13_, x14, x15, x16, x17, x18, x19, x20, x21, x22, x23, x24, x25, (.bool (decide (rank kt < rank ki))), t27_, t28_, t29_, t30_, t31_, t32_, t33_, t34_, t35_, t36_, t37_, t38_, t39_, t40_, t41_, t42_, t43_] := by kernel_rfl
  have f := fin x14 x15 x16 x17 x18 x19 x20 x21 x22 x23 x24 x25 W
  rw [← e] at f
  exact f
end
section
variable {ops : Array Oper} {a0 : Act} {W0 : World} {Q : Exit → Act → World → Prop} {b o n c_ t : Nat} {xs : List KV} {e : KV}
structure CNb (ops : Array Oper) (a0 : Act) (W0 : World) (b o n c_ t : Nat) (xs : List KV) (e : KV) : Prop where
  hops : rops Try.f54 9 = ops
  hz : a0.tmps.size = 44
  z0 : a0.eval (.tmp 0) = .slice (some ⟨b, o, none⟩) n c_
  z3 : a0.eval (.tmp 3) = .int .i64 (t : Int)
  rd : RdC W0 (.slice (some ⟨b, o, none⟩) n c_) (xs.map prOf)
  nn : n = xs.length
  tt : t < n
  nc : n ≤ c_
  cc : c_ ≤ 9223372036854775807
  xsn : xs.length ≤ 100000000
  m0 : W0.cell? ⟨b, o + t * 3, none⟩ = some (.string (S e.1))
  m1 : W0.cell? ⟨b, o + t * 3 + 1, none⟩ = some (.string (S e.2))
  m2 : W0.cell? ⟨b, o + t * 3 + 2, none⟩ = some (.bool false)
  i1 : ∀ (W : World) (v : Value), RdC W v ((xs.take t).map prOf) → Calls Try.prog 54 #[v] W (Ret fun r w' => Row w' W.heap.size r ((nodes (xs.take t)).map prOf) ∧ Nx W w')
  i2 : ∀ (W : World) (v : Value), RdC W v ((xs.drop (t + 1)).map prOf) → Calls Try.prog 54 #[v] W (Ret fun r w' => Row w' W.heap.size r ((nodes (xs.drop (t + 1))).map prOf) ∧ Nx W w')
  hn : nodes xs = e :: (nodes (xs.take t) ++ nodes (xs.drop (t + 1)))
def KNb (W0 : World) (b o n c_ t : Nat) (xs : List KV) (e : KV) : List Kd := [Kd.eq (.slice (some ⟨b, o, none⟩) n c_), Kd.eq (.int .i64 (t : Int)), Kd.eq (.pointer (some ⟨b, o + t * 3, none⟩)), Kd.eq (.agg #[.string (S e.1), .string (S e.2), .bool false]), Kd.till 9 (fun v W => Full W0.heap.size [prOf e] v W) Full.nx, Kd.eq (.slice (some ⟨b, o, none⟩) n c_), Kd.eq (.int .i64 (t : Int)), Kd.eq (.slice (some ⟨b, o, none⟩) t c_), Kd.till 9 (fun v W => RdC W v ((nodes (xs.take t)).map prOf)) RdC.nx, Kd.till 15 (fun v W => Row W W0.heap.size v ([prOf e] ++ (nodes (xs.take t)).map prOf)) Row.nx, Kd.eq (.slice (some ⟨b, o, none⟩) n c_), Kd.eq (.int .i64 (t : Int)), Kd.eq (.int .i64 ((t + 1 : Nat) : Int)), Kd.of (fun v _ => RdC W0 v ((xs.drop (t + 1)).map prOf)) (fun h _ => h), Kd.till 15 (fun v W => RdC W v ((nodes (xs.drop (t + 1))).map prOf)) RdC.nx, Kd.of (fun v W => Row W W0.heap.size v ((nodes xs).map prOf)) Row.nx, Kd.of (fun v W => Row W W0.heap.size v ((nodes xs).map prOf)) Row.nx]
/-- What is kept. -/
abbrev INb (W0 : World) (b o n c_ t : Nat) (xs : List KV) (e : KV) : Array Bool → World → Prop := (fun _ W => Nx W0 W)
theorem hNb_0 (c : CNb ops a0 W0 b o n c_ t xs e) : ops[0]? = some { dst := some 28, op := .move (.tmp 0), type := 33, pos := "ref.go:124", after := #[], guard := none } := by rw [← c.hops]; rfl
theorem hNb_1 (c : CNb ops a0 W0 b o n c_ t xs e) : ops[1]? = some { dst := some 29, op := .move (.tmp 3), type := 3, pos := "ref.go:124", after := #[], guard := none } := by rw [← c.hops]; rfl
theorem hNb_2 (c : CNb ops a0 W0 b o n c_ t xs e) : ops[2]? = some { dst := some 30, op := .indexAddr 33 (.tmp 28) (.tmp 29), type := 0, pos := "ref.go:124", after := #[{ on := 0, ground := .data }, { on := 1, ground := .data }], guard := none } := by rw [← c.hops]; rfl
theorem hNb_3 (c : CNb ops a0 W0 b o n c_ t xs e) : ops[3]? = some { dst := some 31, op := .load 40 (.tmp 30), type := 40, pos := "ref.go:124", after := #[{ on := 2, ground := .data }], guard := none } := by rw [← c.hops]; rfl
theorem hNb_4 (c : CNb ops a0 W0 b o n c_ t xs e) : ops[4]? = some { dst := some 32, op := .buildSlice 33 1 #[(0, .tmp 31)], type := 33, pos := "ref.go:124", after := #[{ on := 3, ground := .data }], guard := none } := by rw [← c.hops]; rfl
theorem hNb_5 (c : CNb ops a0 W0 b o n c_ t xs e) : ops[5]? = some { dst := some 33, op := .move (.tmp 0), type := 33, pos := "ref.go:124", after := #[], guard := none } := by rw [← c.hops]; rfl
theorem hNb_6 (c : CNb ops a0 W0 b o n c_ t xs e) : ops[6]? = some { dst := some 34, op := .move (.tmp 3), type := 3, pos := "ref.go:124", after := #[], guard := none } := by rw [← c.hops]; rfl
theorem hNb_7 (c : CNb ops a0 W0 b o n c_ t xs e) : ops[7]? = some { dst := some 35, op := .slice 33 (.tmp 33) none (some (.tmp 34)) none, type := 33, pos := "ref.go:124", after := #[{ on := 5, ground := .data }, { on := 6, ground := .data }], guard := none } := by rw [← c.hops]; rfl
theorem hNb_8 (c : CNb ops a0 W0 b o n c_ t xs e) : ops[8]? = some { dst := some 36, op := .call { callee := .value (.func 54), args := #[.tmp 35], argTypes := #[33] }, type := 33, pos := "ref.go:124", after := #[{ on := 7, ground := .data }], guard := none } := by rw [← c.hops]; rfl
theorem hNb_9 (c : CNb ops a0 W0 b o n c_ t xs e) : ops[9]? = some { dst := some 37, op := .call { callee := .builtin .append, args := #[.tmp 32, .tmp 36], argTypes := #[33, 33] }, type := 33, pos := "ref.go:124", after := #[{ on := 4, ground := .data }, { on := 8, ground := .data }, { on := 8, ground := .chain }], guard := none } := by rw [← c.hops]; rfl
theorem hNb_10 (c : CNb ops a0 W0 b o n c_ t xs e) : ops[10]? = some { dst := some 38, op := .move (.tmp 0), type := 33, pos := "ref.go:124", after := #[], guard := none } := by rw [← c.hops]; rfl
theorem hNb_11 (c : CNb ops a0 W0 b o n c_ t xs e) : ops[11]? = some { dst := some 39, op := .move (.tmp 3), type := 3, pos := "ref.go:124", after := #[], guard := none } := by rw [← c.hops]; rfl
theorem hNb_12 (c : CNb ops a0 W0 b o n c_ t xs e) : ops[12]? = some { dst := some 40, op := .binOp .add 3 (.tmp 39) (.const (.int .i64 1)) 3, type := 3, pos := "ref.go:124", after := #[{ on := 11, ground := .data }], guard := none } := by rw [← c.hops]; rfl
theorem hNb_13 (c : CNb ops a0 W0 b o n c_ t xs e) : ops[13]? = some { dst := some 41, op := .slice 33 (.tmp 38) (some (.tmp 40)) none none, type := 33, pos := "ref.go:124", after := #[{ on := 10, ground := .data }, { on := 12, ground := .data }], guard := none } := by rw [← c.hops]; rfl
theorem hNb_14 (c : CNb ops a0 W0 b o n c_ t xs e) : ops[14]? = some { dst := some 42, op := .call { callee := .value (.func 54), args := #[.tmp 41], argTypes := #[33] }, type := 33, pos := "ref.go:124", after := #[{ on := 13, ground := .data }, { on := 9, ground := .chain }], guard := none } := by rw [← c.hops]; rfl
theorem hNb_15 (c : CNb ops a0 W0 b o n c_ t xs e) : ops[15]? = some { dst := some 43, op := .call { callee := .builtin .append, args := #[.tmp 37, .tmp 42], argTypes := #[33, 33] }, type := 33, pos := "ref.go:124", after := #[{ on := 9, ground := .data }, { on := 14, ground := .data }, { on := 14, ground := .chain }], guard := none } := by rw [← c.hops]; rfl
theorem hNb_16 (c : CNb ops a0 W0 b o n c_ t xs e) : ops[16]? = some { dst := some 2, op := .assign (.tmp 43), type := 33, pos := "ref.go:124", after := #[{ on := 15, ground := .data }, { on := 15, ground := .chain }, { on := 0, ground := .phase }, { on := 1, ground := .phase }, { on := 2, ground := .phase }, { on := 3, ground := .phase }, { on := 4, ground := .phase }, { on := 5, ground := .phase }, { on := 6, ground := .phase }, { on := 7, ground := .phase }, { on := 8, ground := .phase }, { on := 9, ground := .phase }, { on := 10, ground := .phase }, { on := 11, ground := .phase }, { on := 12, ground := .phase }, { on := 13, ground := .phase }, { on := 14, ground := .phase }, { on := 15, ground := .phase }], guard := none } := by rw [← c.hops]; rfl
theorem huNb (c : CNb ops a0 W0 b o n c_ t xs e) : dstB ops = true := by rw [← c.hops]; kernel_rfl
theorem hoNb (c : CNb ops a0 W0 b o n c_ t xs e) : ordB ops = true := by rw [← c.hops]; kernel_rfl
theorem hnNb (c : CNb ops a0 W0 b o n c_ t xs e) : ops.size = 17 := by rw [← c.hops]; rfl
theorem hdNb (c : CNb ops a0 W0 b o n c_ t xs e) : dsts ops = [28, 29, 30, 31, 32, 33, 34, 35, 36, 37, 38, 39, 40, 41, 42, 43, 2] := by rw [← c.hops]; rfl
theorem oNb_0 (c : CNb ops a0 W0 b o n c_ t xs e) : oldB ops 0 = true := by rw [← c.hops]; kernel_rfl
theorem oNb_3 (c : CNb ops a0 W0 b o n c_ t xs e) : oldB ops 3 = true := by rw [← c.hops]; kernel_rfl
theorem sNb_0 (c : CNb ops a0 W0 b o n c_ t xs e) : Stp Try.prog ops Q a0 (KNb W0 b o n c_ t xs e) (INb W0 b o n c_ t xs e) 0 := stp_val (huNb c) (hNb_0 c) rfl (by rw [c.hz]; decide) fun l a W hF hn hd => ⟨want_none rfl, by
    have e0 : a.eval (.tmp 0) = .slice (some ⟨b, o, none⟩) n c_ := (hF.old (oNb_0 c)).trans c.z0
    exact ⟨.slice (some ⟨b, o, none⟩) n c_, W, by show Result.ok (Next.value (a.eval _)) W = _; rw [e0], rfl, Nx.refl W, hF.inv⟩⟩
theorem sNb_1 (c : CNb ops a0 W0 b o n c_ t xs e) : Stp Try.prog ops Q a0 (KNb W0 b o n c_ t xs e) (INb W0 b o n c_ t xs e) 1 := stp_val (huNb c) (hNb_1 c) rfl (by rw [c.hz]; decide) fun l a W hF hn hd => ⟨want_none rfl, by
    have e3 : a.eval (.tmp 3) = .int .i64 (t : Int) := (hF.old (oNb_3 c)).trans c.z3
    exact ⟨.int .i64 (t : Int), W, by show Result.ok (Next.value (a.eval _)) W = _; rw [e3], rfl, Nx.refl W, hF.inv⟩⟩
theorem sNb_2 (c : CNb ops a0 W0 b o n c_ t xs e) : Stp Try.prog ops Q a0 (KNb W0 b o n c_ t xs e) (INb W0 b o n c_ t xs e) 2 := stp_val (huNb c) (hNb_2 c) rfl (by rw [c.hz]; decide) fun l a W hF hn hd => ⟨want_none rfl, by
    have e28 : a.eval (.tmp 28) = .slice (some ⟨b, o, none⟩) n c_ := by obtain ⟨v, e, p⟩ := hF.get (hNb_0 c) rfl (hd.at 0 (by rfl)); exact e.trans p
    have e29 : a.eval (.tmp 29) = .int .i64 (t : Int) := by obtain ⟨v, e, p⟩ := hF.get (hNb_1 c) rfl (hd.at 1 (by rfl)); exact e.trans p
    have x1 := c.tt; have x2 : (0 : Int) ≤ (t : Int) := Int.natCast_nonneg t; have x3 : ((t : Int) < (n : Int)) := by omega
    refine ⟨.pointer (some ⟨b, o + t * 3, none⟩), W, ?_, rfl, Nx.refl W, hF.inv⟩
    show (execOp a.eval _).run Try.prog W = _
    simp only [execOp, e28, e29]
    simp [go_sem, x2, x3]⟩
theorem sNb_3 (c : CNb ops a0 W0 b o n c_ t xs e) : Stp Try.prog ops Q a0 (KNb W0 b o n c_ t xs e) (INb W0 b o n c_ t xs e) 3 := stp_val (huNb c) (hNb_3 c) rfl (by rw [c.hz]; decide) fun l a W hF hn hd => ⟨want_none rfl, by
    have e30 : a.eval (.tmp 30) = .pointer (some ⟨b, o + t * 3, none⟩) := by obtain ⟨v, e, p⟩ := hF.get (hNb_2 c) rfl (hd.at 2 (by rfl)); exact e.trans p
    have m0 := cell_nx c.m0 hF.inv
    have m1 := cell_nx c.m1 hF.inv
    have m2 := cell_nx c.m2 hF.inv
    refine ⟨.agg #[.string (S e.1), .string (S e.2), .bool false], W, ?_, rfl, Nx.refl W, hF.inv⟩
    show (execOp a.eval _).run Try.prog W = _
    simp only [execOp, e30]
    simp [go_sem, m0, m1, m2]⟩
theorem sNb_4 (c : CNb ops a0 W0 b o n c_ t xs e) : Stp Try.prog ops Q a0 (KNb W0 b o n c_ t xs e) (INb W0 b o n c_ t xs e) 4 := stp_val (huNb c) (hNb_4 c) rfl (by rw [c.hz]; decide) fun l a W hF hn hd => ⟨want_none rfl, by
    have e31 : a.eval (.tmp 31) = .agg #[.string (S e.1), .string (S e.2), .bool false] := by obtain ⟨v, e, p⟩ := hF.get (hNb_3 c) rfl (hd.at 3 (by rfl)); exact e.trans p
    have nxa : Nx W (W.alloc (.cells (prC (prOf e)).toArray 40)) := (Nx.refl W).alloc _
    refine ⟨.slice (some ⟨W.heap.size, 0, none⟩) 1 1, W.alloc (.cells (prC (prOf e)).toArray 40), ?_, fun _ => full_one W _ hF.inv.size (prOf e), nxa, (hF.inv.trans nxa)⟩
    show (execOp a.eval _).run Try.prog W = _
    simp only [execOp, List.map_toArray, List.map_cons, List.map_nil, e31]
    simp [go_sem, prC, prOf]⟩
theorem sNb_5 (c : CNb ops a0 W0 b o n c_ t xs e) : Stp Try.prog ops Q a0 (KNb W0 b o n c_ t xs e) (INb W0 b o n c_ t xs e) 5 := stp_val (huNb c) (hNb_5 c) rfl (by rw [c.hz]; decide) fun l a W hF hn hd => ⟨want_none rfl, by
    have e0 : a.eval (.tmp 0) = .slice (some ⟨b, o, none⟩) n c_ := (hF.old (oNb_0 c)).trans c.z0
    exact ⟨.slice (some ⟨b, o, none⟩) n c_, W, by show Result.ok (Next.value (a.eval _)) W = _; rw [e0], rfl, Nx.refl W, hF.inv⟩⟩
theorem sNb_6 (c : CNb ops a0 W0 b o n c_ t xs e) : Stp Try.prog ops Q a0 (KNb W0 b o n c_ t xs e) (INb W0 b o n c_ t xs e) 6 := stp_val (huNb c) (hNb_6 c) rfl (by rw [c.hz]; decide) fun l a W hF hn hd => ⟨want_none rfl, by
    have e3 : a.eval (.tmp 3) = .int .i64 (t : Int) := (hF.old (oNb_3 c)).trans c.z3
    exact ⟨.int .i64 (t : Int), W, by show Result.ok (Next.value (a.eval _)) W = _; rw [e3], rfl, Nx.refl W, hF.inv⟩⟩
theorem sNb_7 (c : CNb ops a0 W0 b o n c_ t xs e) : Stp Try.prog ops Q a0 (KNb W0 b o n c_ t xs e) (INb W0 b o n c_ t xs e) 7 := stp_val (huNb c) (hNb_7 c) rfl (by rw [c.hz]; decide) fun l a W hF hn hd => ⟨want_none rfl, by
    have e33 : a.eval (.tmp 33) = .slice (some ⟨b, o, none⟩) n c_ := by obtain ⟨v, e, p⟩ := hF.get (hNb_5 c) rfl (hd.at 5 (by rfl)); exact e.trans p
    have e34 : a.eval (.tmp 34) = .int .i64 (t : Int) := by obtain ⟨v, e, p⟩ := hF.get (hNb_6 c) rfl (hd.at 6 (by rfl)); exact e.trans p
    exact ⟨.slice (some ⟨b, o, none⟩) t c_, W, run_lo rfl e33 e34 (Nat.le_of_lt c.tt) c.nc, rfl, Nx.refl W, hF.inv⟩⟩
theorem sNb_8 (c : CNb ops a0 W0 b o n c_ t xs e) : Stp Try.prog ops Q a0 (KNb W0 b o n c_ t xs e) (INb W0 b o n c_ t xs e) 8 := stp_call (huNb c) (hNb_8 c) rfl (by rw [c.hz]; decide) fun l a W hF hn hd => ⟨want_none rfl, by
    have e35 : a.eval (.tmp 35) = .slice (some ⟨b, o, none⟩) t c_ := by obtain ⟨v, e, p⟩ := hF.get (hNb_7 c) rfl (hd.at 7 (by rfl)); exact e.trans p
    refine ⟨54, #[.slice (some ⟨b, o, none⟩) t c_], _, run_enter rfl (by simp only [List.map_toArray, List.map_cons, List.map_nil, e35]) (eval_func _ _) (enters_of Try.func54 (by kernel_rfl) rfl), c.i1 W _ ((RdC.lo c.rd t (by have := c.tt; have := c.nn; omega)).nx hF.inv), ?_⟩
    rintro e' W' ⟨r, rfl, hrow, hn2⟩; exact ⟨_, rfl, fun _ => hrow.rdc, hn2, (hF.inv.trans hn2)⟩⟩
theorem sNb_9 (c : CNb ops a0 W0 b o n c_ t xs e) : Stp Try.prog ops Q a0 (KNb W0 b o n c_ t xs e) (INb W0 b o n c_ t xs e) 9 := stp_val (huNb c) (hNb_9 c) rfl (by rw [c.hz]; decide) fun l a W hF hn hd => ⟨want_none rfl, by
    obtain ⟨v32, e32, p32⟩ := hF.get (hNb_4 c) rfl (hd.at 4 (by rfl))
    obtain ⟨v36, e36, p36⟩ := hF.get (hNb_8 c) rfl (hd.at 8 (by rfl))
    obtain ⟨g0, n0, e0, hr0⟩ := p32 hn
    subst e0
    obtain ⟨v', W', h1, hrow, hnx⟩ := run_appF (o := { dst := some 37, op := .call { callee := .builtin .append, args := #[.tmp 32, .tmp 36], argTypes := #[33, 33] }, type := 33, pos := "ref.go:124", after := #[{ on := 4, ground := .data }, { on := 8, ground := .data }, { on := 8, ground := .chain }], guard := none }) (.tmp 32) (.tmp 36) rfl W0.heap.size g0 n0 _ _ _ e32 e36 hr0 (p36 hn) (by rw [List.length_map, nodes_length, List.length_take]; have := c.xsn; simp only [List.length_singleton]; omega) hF.inv.size
    exact ⟨v', W', h1, fun _ => hrow, hnx, (hF.inv.trans hnx)⟩⟩
theorem sNb_10 (c : CNb ops a0 W0 b o n c_ t xs e) : Stp Try.prog ops Q a0 (KNb W0 b o n c_ t xs e) (INb W0 b o n c_ t xs e) 10 := stp_val (huNb c) (hNb_10 c) rfl (by rw [c.hz]; decide) fun l a W hF hn hd => ⟨want_none rfl, by
    have e0 : a.eval (.tmp 0) = .slice (some ⟨b, o, none⟩) n c_ := (hF.old (oNb_0 c)).trans c.z0
    exact ⟨.slice (some ⟨b, o, none⟩) n c_, W, by show Result.ok (Next.value (a.eval _)) W = _; rw [e0], rfl, Nx.refl W, hF.inv⟩⟩
theorem sNb_11 (c : CNb ops a0 W0 b o n c_ t xs e) : Stp Try.prog ops Q a0 (KNb W0 b o n c_ t xs e) (INb W0 b o n c_ t xs e) 11 := stp_val (huNb c) (hNb_11 c) rfl (by rw [c.hz]; decide) fun l a W hF hn hd => ⟨want_none rfl, by
    have e3 : a.eval (.tmp 3) = .int .i64 (t : Int) := (hF.old (oNb_3 c)).trans c.z3
    exact ⟨.int .i64 (t : Int), W, by show Result.ok (Next.value (a.eval _)) W = _; rw [e3], rfl, Nx.refl W, hF.inv⟩⟩
theorem sNb_12 (c : CNb ops a0 W0 b o n c_ t xs e) : Stp Try.prog ops Q a0 (KNb W0 b o n c_ t xs e) (INb W0 b o n c_ t xs e) 12 := stp_val (huNb c) (hNb_12 c) rfl (by rw [c.hz]; decide) fun l a W hF hn hd => ⟨want_none rfl, by
    have e39 : a.eval (.tmp 39) = .int .i64 (t : Int) := by obtain ⟨v, e, p⟩ := hF.get (hNb_11 c) rfl (hd.at 11 (by rfl)); exact e.trans p
    have q : IntKind.i64.wrap ((t : Int) + 1) = (t : Int) + 1 := IntWalk.i64_in _ (by have := c.tt; have := c.nn; have := c.xsn; omega)
    refine ⟨.int .i64 ((t + 1 : Nat) : Int), W, ?_, rfl, Nx.refl W, hF.inv⟩
    show (execOp a.eval _).run Try.prog W = _
    simp only [execOp, e39]
    simp [go_sem, q]⟩
theorem sNb_13 (c : CNb ops a0 W0 b o n c_ t xs e) : Stp Try.prog ops Q a0 (KNb W0 b o n c_ t xs e) (INb W0 b o n c_ t xs e) 13 := stp_val (huNb c) (hNb_13 c) rfl (by rw [c.hz]; decide) fun l a W hF hn hd => ⟨want_none rfl, by
    have e38 : a.eval (.tmp 38) = .slice (some ⟨b, o, none⟩) n c_ := by obtain ⟨v, e, p⟩ := hF.get (hNb_10 c) rfl (hd.at 10 (by rfl)); exact e.trans p
    have e40 : a.eval (.tmp 40) = .int .i64 ((t + 1 : Nat) : Int) := by obtain ⟨v, e, p⟩ := hF.get (hNb_12 c) rfl (hd.at 12 (by rfl)); exact e.trans p
    obtain ⟨v', h1, h2⟩ := run_hi (W := W) (o := { dst := some 41, op := .slice 33 (.tmp 38) (some (.tmp 40)) none none, type := 33, pos := "ref.go:124", after := #[{ on := 10, ground := .data }, { on := 12, ground := .data }], guard := none }) rfl e38 e40 c.tt c.nc c.nn c.rd
    exact ⟨v', W, h1, h2, Nx.refl W, hF.inv⟩⟩
theorem sNb_14 (c : CNb ops a0 W0 b o n c_ t xs e) : Stp Try.prog ops Q a0 (KNb W0 b o n c_ t xs e) (INb W0 b o n c_ t xs e) 14 := stp_call (huNb c) (hNb_14 c) rfl (by rw [c.hz]; decide) fun l a W hF hn hd => ⟨want_none rfl, by
    obtain ⟨v41, e41, p41⟩ := hF.get (hNb_13 c) rfl (hd.at 13 (by rfl))
    have p41 : RdC W0 v41 ((xs.drop (t + 1)).map prOf) := p41
    refine ⟨54, #[v41], _, run_enter rfl (by simp only [List.map_toArray, List.map_cons, List.map_nil, e41]) (eval_func _ _) (enters_of Try.func54 (by kernel_rfl) rfl), c.i2 W _ (p41.nx hF.inv), ?_⟩
    rintro e' W' ⟨r, rfl, hrow, hn2⟩; exact ⟨_, rfl, fun _ => hrow.rdc, hn2, (hF.inv.trans hn2)⟩⟩
theorem sNb_15 (c : CNb ops a0 W0 b o n c_ t xs e) : Stp Try.prog ops Q a0 (KNb W0 b o n c_ t xs e) (INb W0 b o n c_ t xs e) 15 := stp_turn (huNb c) (hNb_15 c) rfl (by rw [c.hz]; decide) fun l a W hF hn hd => ⟨want_none rfl, by
    obtain ⟨v37, e37, p37⟩ := hF.get (hNb_9 c) rfl (hd.at 9 (by rfl))
    obtain ⟨v42, e42, p42⟩ := hF.get (hNb_14 c) rfl (hd.at 14 (by rfl))
    obtain ⟨v', W', h1, hrow, hg⟩ := run_appW (o := { dst := some 43, op := .call { callee := .builtin .append, args := #[.tmp 37, .tmp 42], argTypes := #[33, 33] }, type := 33, pos := "ref.go:124", after := #[{ on := 9, ground := .data }, { on := 14, ground := .data }, { on := 14, ground := .chain }], guard := none }) (.tmp 37) (.tmp 42) rfl W0.heap.size _ _ _ _ e37 e42 (p37 hn) (p42 hn) (by rw [List.length_append, List.length_map, List.length_map, nodes_length, nodes_length, List.length_take, List.length_drop]; have := c.xsn; simp only [List.length_singleton]; omega) hF.inv.size
    exact ⟨v', W', h1, (by rw [List.append_assoc, ← List.map_append] at hrow; show Row _ _ _ _; rw [c.hn]; exact hrow), fun j v hne hl => match j, hne, hl with | 0, hne, hl => fun h => h | 1, hne, hl => fun h => h | 2, hne, hl => fun h => h | 3, hne, hl => fun h => h | 4, hne, hl => fun h => fun e => absurd (getD_set_was e) (by rw [(hd.at 9 (by rfl))]; decide) | 5, hne, hl => fun h => h | 6, hne, hl => fun h => h | 7, hne, hl => fun h => h | 8, hne, hl => fun h => fun e => absurd (getD_set_was e) (by rw [(hd.at 9 (by rfl))]; decide) | 9, hne, hl => fun h => fun e => absurd e (by rw [getD_set_self (hF.lt (hNb_15 c))]; decide) | 10, hne, hl => fun h => h | 11, hne, hl => fun h => h | 12, hne, hl => fun h => h | 13, hne, hl => fun h => h | 14, hne, hl => fun h => fun e => absurd e (by rw [getD_set_self (hF.lt (hNb_15 c))]; decide) | 15, hne, hl => fun h => absurd rfl hne | 16, hne, hl => fun h => absurd hl (by rw [(hF.off hn (hNb_16 c) (by rfl))]; decide) | (k + 17), _, _ => fun _ => trivial, Nx.grown hF.inv (p37 hn) hg⟩⟩
theorem sNb_16 (c : CNb ops a0 W0 b o n c_ t xs e) : Stp Try.prog ops Q a0 (KNb W0 b o n c_ t xs e) (INb W0 b o n c_ t xs e) 16 := stp_val (huNb c) (hNb_16 c) rfl (by rw [c.hz]; decide) fun l a W hF hn hd => ⟨want_none rfl, by
    obtain ⟨v43, e43, p43⟩ := hF.get (hNb_15 c) rfl (hd.at 15 (by rfl))
    have p43 : Row W W0.heap.size v43 ((nodes xs).map prOf) := p43
    exact ⟨v43, W, by show Result.ok (Next.value (a.eval _)) W = _; rw [e43], p43, Nx.refl W, hF.inv⟩⟩
theorem rgNb (c : CNb ops a0 W0 b o n c_ t xs e) {id : Nat} (fin : ∀ (x28 x29 x30 x31 x32 x33 x34 x35 x36 x37 x38 x39 x40 x41 x42 x43 x2 : Value) (W : World), Row W W0.heap.size x2 ((nodes xs).map prOf) → Nx W0 W → Q .normal { tmps := (((((((((((((((((a0.tmps.setIfInBounds 28 x28).setIfInBounds 29 x29).setIfInBounds 30 x30).setIfInBounds 31 x31).setIfInBounds 32 x32).setIfInBounds 33 x33).setIfInBounds 34 x34).setIfInBounds 35 x35).setIfInBounds 36 x36).setIfInBounds 37 x37).setIfInBounds 38 x38).setIfInBounds 39 x39).setIfInBounds 40 x40).setIfInBounds 41 x41).setIfInBounds 42 x42).setIfInBounds 43 x43).setIfInBounds 2 x2), defers := a0.defers } W) : (Code.region id ops true).wp Try.prog Q a0 W0 := by
  refine flows (K := (KNb W0 b o n c_ t xs e)) (Inv := (INb W0 b o n c_ t xs e)) (by kernel_rfl) (hoNb c) (hnNb c) (Nx.refl W0).drew ⟨⟨⟨⟨⟨⟨⟨⟨⟨⟨⟨⟨⟨⟨⟨⟨⟨trivial, sNb_0 c⟩, sNb_1 c⟩, sNb_2 c⟩, sNb_3 c⟩, sNb_4 c⟩, sNb_5 c⟩, sNb_6 c⟩, sNb_7 c⟩, sNb_8 c⟩, sNb_9 c⟩, sNb_10 c⟩, sNb_11 c⟩, sNb_12 c⟩, sNb_13 c⟩, sNb_14 c⟩, sNb_15 c⟩, sNb_16 c⟩ fun l a W hF hl => ?_
  have f := hF.form
  rw [hdNb c] at f
  simp only [List.foldl] at f
  obtain ⟨v2, e2, p2⟩ := hF.get (hNb_16 c) rfl (hl 16 (by decide))
  have q2 : a.tmps.getD 2 undef = v2 := e2
  rw [q2] at f
  rw [f]
  exact fin _ _ _ _ _ _ _ _ _ _ _ _ _ _ _ _ v2 W p2 hF.inv
theorem rgNbL {t0_ t1_ t2_ t3_ t4_ t5_ t6_ t7_ t8_ t9_ t10_ t11_ t12_ t13_ t14_ t15_ t16_ t17_ t18_ t19_ t20_ t21_ t22_ t23_ t24_ t25_ t26_ t27_ t28_ t29_ t30_ t31_ t32_ t33_ t34_ t35_ t36_ t37_ t38_ t39_ t40_ t41_ t42_ t43_ : Value} {d_ : List Deferred} (c : CNb ops { tmps := #[t0_, t1_, t2_, t3_, t4_, t5_, t6_, t7_, t8_, t9_, t10_, t11_, t12_, t13_, t14_, t15_, t16_, t17_, t18_, t19_, t20_, t21_, t22_, t23_, t24_, t25_, t26_, t27_, t28_, t29_, t30_, t31_, t32_, t33_, t34_, t35_, t36_, t37_, t38_, t39_, t40_, t41_, t42_, t43_], defers := d_ } W0 b o n c_ t xs e) {id : Nat} (fin : ∀ (x28 x29 x30 x31 x32 x33 x34 x35 x36 x37 x38 x39 x40 x41 x42 x43 x2 : Value) (W : World), Row W W0.heap.size x2 ((nodes xs).map prOf) → Nx W0 W → Q .normal { tmps := #[t0_, t1_, x2, t3_, t4_, t5_, t6_, t7_, t8_, t9_, t10_, t11_, t12_, t13_, t14_, t15_, t16_, t17_, t18_, t19_, t20_, t21_, t22_, t23_, t24_, t25_, t26_, t27_, x28, x29, x30, x31, x32, x33, x34, x35, x36, x37, x38, x39, x40, x41, x42, x43], defers := d_ } W) : (Code.region id ops true).wp Try.prog Q { tmps := #[t0_, t1_, t2_, t3_, t4_, t5_, t6_, t7_, t8_, t9_, t10_, t11_, t12_, t13_, t14_, t15_, t16_, t17_, t18_, t19_, t20_, t21_, t22_, t23_, t24_, t25_, t26_, t27_, t28_, t29_, t30_, t31_, t32_, t33_, t34_, t35_, t36_, t37_, t38_, t39_, t40_, t41_, t42_, t43_], defers := d_ } W0 := by
  refine rgNb c ?_
  intro x28 x29 x30 x31 x32 x33 x34 x35 x36 x37 x38 x39 x40 x41 x42 x43 x2 W
  have e : (((((((((((((((((#[t0_, t1_, t2_, t3_, t4_, t5_, t6_, t7_, t8_, t9_, t10_, t11_, t12_, t13_, t14_, t15_, t16_, t17_, t18_, t19_, t20_, t21_, t22_, t23_, t24_, t25_, t26_, t27_, t28_, t29_, t30_, t31_, t32_, t33_, t34_, t35_, t36_, t37_, t38_, t39_, t40_, t41_, t42_, t43_].setIfInBounds 28 x28).setIfInBounds 29 x29).setIfInBounds 30 x30).setIfInBounds 31 x31).setIfInBounds 32 x32).setIfInBounds 33 x33).setIfInBounds 34 x34).setIfInBounds 35 x35).setIfInBounds 36 x36).setIfInBounds 37 x37).setIfInBounds 38 x38).setIfInBounds 39 x39).setIfInBounds 40 x40).setIfInBounds 41 x41).setIfInBounds 42 x42).setIfInBounds 43 x43).setIfInBounds 2 x2) = #[t0_, t1_, x2, t3_, t4_, t5_, t6_, t7_, t8_, t9_, t10_, t11_, t12_, t13_, t14_, t15_, t16_, t17_, t18_, t19_, t20_, t21_, t22_, t23_, t24_, t25_, t26_, t27_, x28, x29, x30, x31, x32, x33, x34, x35, x36, x37, x38, x39, x40, x41, x42, x43] := by kernel_rfl
  have f := fin x28 x29 x30 x31 x32 x33 x34 x35 x36 x37 x38 x39 x40 x41 x42 x43 x2 W
  rw [← e] at f
  exact f
end
end Go.Proofs.Ytekcphpeaoaaaaa

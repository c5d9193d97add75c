/- Package table: TableChanges, what is cut: regions that draw their order. Made by wip/tools/rg_chc.py. -/
import Derived.Test.YtekcphpeaoaaaaaTbRg
namespace Go.Proofs.Ytekcphpeaoaaaaa
open Go.RowKit Go.Shelf
set_option linter.unusedVariables false
set_option maxRecDepth 100000
section
variable {ops : Array Oper} {a0 : Act} {W0 : World} {Q : Exit → Act → World → Prop} {B12 B13 : Nat} {u12 u13 : Option Addr} {ps qs : List KV}
structure CCc (ops : Array Oper) (a0 : Act) (W0 : World) (B12 B13 : Nat) (u12 u13 : Option Addr) (ps qs : List KV) : Prop where
  hops : rops Try.f7 17 = ops
  hz : a0.tmps.size = 151
  z12 : a0.eval (.tmp 12) = .pointer (some ⟨B12, 0, none⟩)
  z13 : a0.eval (.tmp 13) = .pointer (some ⟨B13, 0, none⟩)
  b12 : BlkIs W0 B12 24 #[.pointer u12]
  b13 : BlkIs W0 B13 24 #[.pointer u13]
  t12 : Tb W0 (.agg #[.pointer u12]) ps
  t13 : Tb W0 (.agg #[.pointer u13]) qs
  psn : ps.length ≤ 100000000
  qsn : qs.length ≤ 100000000
def KCc (W0 : World) (B12 B13 : Nat) (u12 u13 : Option Addr) (ps qs : List KV) : List Kd := [Kd.eq (.agg #[.pointer u12]), Kd.eq (.agg #[.pointer u12]), Kd.eq (.int .i64 (ps.length : Int)), Kd.of (fun v W => RdC W v (ps.map prOf)) RdC.nx, Kd.eq (.agg #[.pointer u13]), Kd.eq (.agg #[.pointer u13]), Kd.eq (.int .i64 (qs.length : Int)), Kd.of (fun v W => RdC W v (qs.map prOf)) RdC.nx, Kd.of (fun v W => RdC W v (ps.map prOf)) RdC.nx, Kd.of (fun v W => RdC W v (qs.map prOf)) RdC.nx]
/-- What is kept. -/
abbrev ICc (W0 : World) (B12 B13 : Nat) (u12 u13 : Option Addr) (ps qs : List KV) : Array Bool → World → Prop := (fun _ W => Nx W0 W)
theorem hCc_0 (c : CCc ops a0 W0 B12 B13 u12 u13 ps qs) : ops[0]? = some { dst := some 89, op := .load 24 (.tmp 12), type := 24, pos := "law.go:172", after := #[], guard := none } := by rw [← c.hops]; rfl
theorem hCc_1 (c : CCc ops a0 W0 B12 B13 u12 u13 ps qs) : ops[1]? = some { dst := some 90, op := .load 24 (.tmp 12), type := 24, pos := "law.go:172", after := #[], guard := none } := by rw [← c.hops]; rfl
theorem hCc_2 (c : CCc ops a0 W0 B12 B13 u12 u13 ps qs) : ops[2]? = some { dst := some 91, op := .call { callee := .value (.func 13), args := #[.tmp 90], argTypes := #[24] }, type := 3, pos := "law.go:172", after := #[{ on := 1, ground := .data }], guard := none } := by rw [← c.hops]; rfl
theorem hCc_3 (c : CCc ops a0 W0 B12 B13 u12 u13 ps qs) : ops[3]? = some { dst := some 92, op := .call { callee := .value (.func 23), args := #[.tmp 89, .const (.string { data := #[] }), .const (.string { data := #[] }), .tmp 91], argTypes := #[24, 9, 9, 3] }, type := 33, pos := "law.go:172", after := #[{ on := 0, ground := .data }, { on := 2, ground := .data }, { on := 2, ground := .chain }], guard := none } := by rw [← c.hops]; rfl
theorem hCc_4 (c : CCc ops a0 W0 B12 B13 u12 u13 ps qs) : ops[4]? = some { dst := some 93, op := .load 24 (.tmp 13), type := 24, pos := "law.go:172", after := #[], guard := none } := by rw [← c.hops]; rfl
theorem hCc_5 (c : CCc ops a0 W0 B12 B13 u12 u13 ps qs) : ops[5]? = some { dst := some 94, op := .load 24 (.tmp 13), type := 24, pos := "law.go:172", after := #[], guard := none } := by rw [← c.hops]; rfl
theorem hCc_6 (c : CCc ops a0 W0 B12 B13 u12 u13 ps qs) : ops[6]? = some { dst := some 95, op := .call { callee := .value (.func 13), args := #[.tmp 94], argTypes := #[24] }, type := 3, pos := "law.go:172", after := #[{ on := 5, ground := .data }, { on := 3, ground := .chain }], guard := none } := by rw [← c.hops]; rfl
theorem hCc_7 (c : CCc ops a0 W0 B12 B13 u12 u13 ps qs) : ops[7]? = some { dst := some 96, op := .call { callee := .value (.func 23), args := #[.tmp 93, .const (.string { data := #[] }), .const (.string { data := #[] }), .tmp 95], argTypes := #[24, 9, 9, 3] }, type := 33, pos := "law.go:172", after := #[{ on := 4, ground := .data }, { on := 6, ground := .data }, { on := 6, ground := .chain }], guard := none } := by rw [← c.hops]; rfl
theorem hCc_8 (c : CCc ops a0 W0 B12 B13 u12 u13 ps qs) : ops[8]? = some { dst := some 14, op := .assign (.tmp 92), type := 33, pos := "law.go:172", after := #[{ on := 3, ground := .data }, { on := 7, ground := .chain }, { on := 0, ground := .phase }, { on := 1, ground := .phase }, { on := 2, ground := .phase }, { on := 3, ground := .phase }, { on := 4, ground := .textOnly .lateStores }, { on := 5, ground := .textOnly .lateStores }, { on := 6, ground := .textOnly .lateStoresUnsure }, { on := 7, ground := .textOnly .lateStoresUnsure }], guard := none } := by rw [← c.hops]; rfl
theorem hCc_9 (c : CCc ops a0 W0 B12 B13 u12 u13 ps qs) : ops[9]? = some { dst := some 15, op := .assign (.tmp 96), type := 33, pos := "law.go:172", after := #[{ on := 7, ground := .data }, { on := 8, ground := .chain }, { on := 0, ground := .phase }, { on := 1, ground := .phase }, { on := 2, ground := .phase }, { on := 3, ground := .phase }, { on := 4, ground := .phase }, { on := 5, ground := .phase }, { on := 6, ground := .phase }, { on := 7, ground := .phase }, { on := 8, ground := .phase }], guard := none } := by rw [← c.hops]; rfl
theorem huCc (c : CCc ops a0 W0 B12 B13 u12 u13 ps qs) : dstB ops = true := by rw [← c.hops]; kernel_rfl
theorem hoCc (c : CCc ops a0 W0 B12 B13 u12 u13 ps qs) : ordB ops = true := by rw [← c.hops]; kernel_rfl
theorem hnCc (c : CCc ops a0 W0 B12 B13 u12 u13 ps qs) : ops.size = 10 := by rw [← c.hops]; rfl
theorem hdCc (c : CCc ops a0 W0 B12 B13 u12 u13 ps qs) : dsts ops = [89, 90, 91, 92, 93, 94, 95, 96, 14, 15] := by rw [← c.hops]; rfl
theorem oCc_12 (c : CCc ops a0 W0 B12 B13 u12 u13 ps qs) : oldB ops 12 = true := by rw [← c.hops]; kernel_rfl
theorem oCc_13 (c : CCc ops a0 W0 B12 B13 u12 u13 ps qs) : oldB ops 13 = true := by rw [← c.hops]; kernel_rfl
theorem sCc_0 (c : CCc ops a0 W0 B12 B13 u12 u13 ps qs) : Stp Try.prog ops Q a0 (KCc W0 B12 B13 u12 u13 ps qs) (ICc W0 B12 B13 u12 u13 ps qs) 0 := stp_val (huCc c) (hCc_0 c) rfl (by rw [c.hz]; decide) fun l a W hF hn hd => ⟨want_none rfl, by
    have e12 : a.eval (.tmp 12) = .pointer (some ⟨B12, 0, none⟩) := (hF.old (oCc_12 c)).trans c.z12
    have m := c.b12.at0 hF.inv
    refine ⟨.agg #[.pointer u12], W, ?_, rfl, Nx.refl W, hF.inv⟩
    show (execOp a.eval _).run Try.prog W = _
    simp only [execOp, e12]
    simp [go_sem, m]⟩
theorem sCc_1 (c : CCc ops a0 W0 B12 B13 u12 u13 ps qs) : Stp Try.prog ops Q a0 (KCc W0 B12 B13 u12 u13 ps qs) (ICc W0 B12 B13 u12 u13 ps qs) 1 := stp_val (huCc c) (hCc_1 c) rfl (by rw [c.hz]; decide) fun l a W hF hn hd => ⟨want_none rfl, by
    have e12 : a.eval (.tmp 12) = .pointer (some ⟨B12, 0, none⟩) := (hF.old (oCc_12 c)).trans c.z12
    have m := c.b12.at0 hF.inv
    refine ⟨.agg #[.pointer u12], W, ?_, rfl, Nx.refl W, hF.inv⟩
    show (execOp a.eval _).run Try.prog W = _
    simp only [execOp, e12]
    simp [go_sem, m]⟩
theorem sCc_2 (c : CCc ops a0 W0 B12 B13 u12 u13 ps qs) : Stp Try.prog ops Q a0 (KCc W0 B12 B13 u12 u13 ps qs) (ICc W0 B12 B13 u12 u13 ps qs) 2 := stp_call (huCc c) (hCc_2 c) rfl (by rw [c.hz]; decide) fun l a W hF hn hd => ⟨want_none rfl, by
    have e90 : a.eval (.tmp 90) = .agg #[.pointer u12] := by obtain ⟨v, e, p⟩ := hF.get (hCc_1 c) rfl (hd.at 1 (by rfl)); exact e.trans p
    refine ⟨13, #[.agg #[.pointer u12]], _, run_enter rfl (by simp only [List.map_toArray, List.map_cons, List.map_nil, e90]) (eval_func _ _) (enters_of Try.func13 (by kernel_rfl) rfl), tsize_any W _ ps (c.t12.nx hF.inv), ?_⟩
    rintro e W' ⟨rfl, hn2⟩; exact ⟨_, rfl, rfl, hn2, (hF.inv.trans hn2)⟩⟩
theorem sCc_3 (c : CCc ops a0 W0 B12 B13 u12 u13 ps qs) : Stp Try.prog ops Q a0 (KCc W0 B12 B13 u12 u13 ps qs) (ICc W0 B12 B13 u12 u13 ps qs) 3 := stp_call (huCc c) (hCc_3 c) rfl (by rw [c.hz]; decide) fun l a W hF hn hd => ⟨want_none rfl, by
    have e89 : a.eval (.tmp 89) = .agg #[.pointer u12] := by obtain ⟨v, e, p⟩ := hF.get (hCc_0 c) rfl (hd.at 0 (by rfl)); exact e.trans p
    have e91 : a.eval (.tmp 91) = .int .i64 (ps.length : Int) := by obtain ⟨v, e, p⟩ := hF.get (hCc_2 c) rfl (hd.at 2 (by rfl)); exact e.trans p
    refine ⟨23, #[.agg #[.pointer u12], .string ⟨#[]⟩, .string ⟨#[]⟩, .int .i64 (ps.length : Int)], _, run_enter rfl (by simp only [List.map_toArray, List.map_cons, List.map_nil, e89, e91, eval_const]) (eval_func _ _) (enters_of Try.func23 (by kernel_rfl) rfl), trange_any W _ ps [] [] ps.length (c.t12.nx hF.inv) c.psn (by omega) (by have := c.psn; omega), ?_⟩
    rintro e W' ⟨r, rfl, hrow, hn2⟩; rw [range_all] at hrow; exact ⟨_, rfl, hrow.rdc, hn2, (hF.inv.trans hn2)⟩⟩
theorem sCc_4 (c : CCc ops a0 W0 B12 B13 u12 u13 ps qs) : Stp Try.prog ops Q a0 (KCc W0 B12 B13 u12 u13 ps qs) (ICc W0 B12 B13 u12 u13 ps qs) 4 := stp_val (huCc c) (hCc_4 c) rfl (by rw [c.hz]; decide) fun l a W hF hn hd => ⟨want_none rfl, by
    have e13 : a.eval (.tmp 13) = .pointer (some ⟨B13, 0, none⟩) := (hF.old (oCc_13 c)).trans c.z13
    have m := c.b13.at0 hF.inv
    refine ⟨.agg #[.pointer u13], W, ?_, rfl, Nx.refl W, hF.inv⟩
    show (execOp a.eval _).run Try.prog W = _
    simp only [execOp, e13]
    simp [go_sem, m]⟩
theorem sCc_5 (c : CCc ops a0 W0 B12 B13 u12 u13 ps qs) : Stp Try.prog ops Q a0 (KCc W0 B12 B13 u12 u13 ps qs) (ICc W0 B12 B13 u12 u13 ps qs) 5 := stp_val (huCc c) (hCc_5 c) rfl (by rw [c.hz]; decide) fun l a W hF hn hd => ⟨want_none rfl, by
    have e13 : a.eval (.tmp 13) = .pointer (some ⟨B13, 0, none⟩) := (hF.old (oCc_13 c)).trans c.z13
    have m := c.b13.at0 hF.inv
    refine ⟨.agg #[.pointer u13], W, ?_, rfl, Nx.refl W, hF.inv⟩
    show (execOp a.eval _).run Try.prog W = _
    simp only [execOp, e13]
    simp [go_sem, m]⟩
theorem sCc_6 (c : CCc ops a0 W0 B12 B13 u12 u13 ps qs) : Stp Try.prog ops Q a0 (KCc W0 B12 B13 u12 u13 ps qs) (ICc W0 B12 B13 u12 u13 ps qs) 6 := stp_call (huCc c) (hCc_6 c) rfl (by rw [c.hz]; decide) fun l a W hF hn hd => ⟨want_none rfl, by
    have e94 : a.eval (.tmp 94) = .agg #[.pointer u13] := by obtain ⟨v, e, p⟩ := hF.get (hCc_5 c) rfl (hd.at 5 (by rfl)); exact e.trans p
    refine ⟨13, #[.agg #[.pointer u13]], _, run_enter rfl (by simp only [List.map_toArray, List.map_cons, List.map_nil, e94]) (eval_func _ _) (enters_of Try.func13 (by kernel_rfl) rfl), tsize_any W _ qs (c.t13.nx hF.inv), ?_⟩
    rintro e W' ⟨rfl, hn2⟩; exact ⟨_, rfl, rfl, hn2, (hF.inv.trans hn2)⟩⟩
theorem sCc_7 (c : CCc ops a0 W0 B12 B13 u12 u13 ps qs) : Stp Try.prog ops Q a0 (KCc W0 B12 B13 u12 u13 ps qs) (ICc W0 B12 B13 u12 u13 ps qs) 7 := stp_call (huCc c) (hCc_7 c) rfl (by rw [c.hz]; decide) fun l a W hF hn hd => ⟨want_none rfl, by
    have e93 : a.eval (.tmp 93) = .agg #[.pointer u13] := by obtain ⟨v, e, p⟩ := hF.get (hCc_4 c) rfl (hd.at 4 (by rfl)); exact e.trans p
    have e95 : a.eval (.tmp 95) = .int .i64 (qs.length : Int) := by obtain ⟨v, e, p⟩ := hF.get (hCc_6 c) rfl (hd.at 6 (by rfl)); exact e.trans p
    refine ⟨23, #[.agg #[.pointer u13], .string ⟨#[]⟩, .string ⟨#[]⟩, .int .i64 (qs.length : Int)], _, run_enter rfl (by simp only [List.map_toArray, List.map_cons, List.map_nil, e93, e95, eval_const]) (eval_func _ _) (enters_of Try.func23 (by kernel_rfl) rfl), trange_any W _ qs [] [] qs.length (c.t13.nx hF.inv) c.qsn (by omega) (by have := c.qsn; omega), ?_⟩
    rintro e W' ⟨r, rfl, hrow, hn2⟩; rw [range_all] at hrow; exact ⟨_, rfl, hrow.rdc, hn2, (hF.inv.trans hn2)⟩⟩
theorem sCc_8 (c : CCc ops a0 W0 B12 B13 u12 u13 ps qs) : Stp Try.prog ops Q a0 (KCc W0 B12 B13 u12 u13 ps qs) (ICc W0 B12 B13 u12 u13 ps qs) 8 := stp_val (huCc c) (hCc_8 c) rfl (by rw [c.hz]; decide) fun l a W hF hn hd => ⟨want_none rfl, by
    obtain ⟨v92, e92, p92⟩ := hF.get (hCc_3 c) rfl (hd.at 3 (by rfl))
    have p92 : RdC W v92 (ps.map prOf) := p92
    exact ⟨v92, W, by show Result.ok (Next.value (a.eval _)) W = _; rw [e92], p92, Nx.refl W, hF.inv⟩⟩
theorem sCc_9 (c : CCc ops a0 W0 B12 B13 u12 u13 ps qs) : Stp Try.prog ops Q a0 (KCc W0 B12 B13 u12 u13 ps qs) (ICc W0 B12 B13 u12 u13 ps qs) 9 := stp_val (huCc c) (hCc_9 c) rfl (by rw [c.hz]; decide) fun l a W hF hn hd => ⟨want_none rfl, by
    obtain ⟨v96, e96, p96⟩ := hF.get (hCc_7 c) rfl (hd.at 7 (by rfl))
    have p96 : RdC W v96 (qs.map prOf) := p96
    exact ⟨v96, W, by show Result.ok (Next.value (a.eval _)) W = _; rw [e96], p96, Nx.refl W, hF.inv⟩⟩
theorem rgCc (c : CCc ops a0 W0 B12 B13 u12 u13 ps qs) {id : Nat} (fin : ∀ (x89 x90 x91 x92 x93 x94 x95 x96 x14 x15 : Value) (W : World), RdC W x14 (ps.map prOf) → RdC W x15 (qs.map prOf) → Nx W0 W → Q .normal { tmps := ((((((((((a0.tmps.setIfInBounds 89 x89).setIfInBounds 90 x90).setIfInBounds 91 x91).setIfInBounds 92 x92).setIfInBounds 93 x93).setIfInBounds 94 x94).setIfInBounds 95 x95).setIfInBounds 96 x96).setIfInBounds 14 x14).setIfInBounds 15 x15), defers := a0.defers } W) : (Code.region id ops true).wp Try.prog Q a0 W0 := by
  refine flows (K := (KCc W0 B12 B13 u12 u13 ps qs)) (Inv := (ICc W0 B12 B13 u12 u13 ps qs)) (by kernel_rfl) (hoCc c) (hnCc c) (Nx.refl W0).drew ⟨⟨⟨⟨⟨⟨⟨⟨⟨⟨trivial, sCc_0 c⟩, sCc_1 c⟩, sCc_2 c⟩, sCc_3 c⟩, sCc_4 c⟩, sCc_5 c⟩, sCc_6 c⟩, sCc_7 c⟩, sCc_8 c⟩, sCc_9 c⟩ fun l a W hF hl => ?_
  have f := hF.form
  rw [hdCc c] at f
  simp only [List.foldl] at f
  obtain ⟨v14, e14, p14⟩ := hF.get (hCc_8 c) rfl (hl 8 (by decide))
  have q14 : a.tmps.getD 14 undef = v14 := e14
  obtain ⟨v15, e15, p15⟩ := hF.get (hCc_9 c) rfl (hl 9 (by decide))
  have q15 : a.tmps.getD 15 undef = v15 := e15
  rw [q14, q15] at f
  rw [f]
  exact fin _ _ _ _ _ _ _ _ v14 v15 W p14 p15 hF.inv
theorem rgCcL {t0_ t1_ t2_ t3_ t4_ t5_ t6_ t7_ t8_ t9_ t10_ t11_ t12_ t13_ t14_ t15_ t16_ t17_ t18_ t19_ t20_ t21_ t22_ t23_ t24_ t25_ t26_ t27_ t28_ t29_ t30_ t31_ t32_ t33_ t34_ t35_ t36_ t37_ t38_ t39_ t40_ t41_ t42_ t43_ t44_ t45_ t46_ t47_ t48_ t49_ t50_ t51_ t52_ t53_ t54_ t55_ t56_ t57_ t58_ t59_ t60_ t61_ t62_ t63_ t64_ t65_ t66_ t67_ t68_ t69_ t70_ t71_ t72_ t73_ t74_ t75_ t76_ t77_ t78_ t79_ t80_ t81_ t82_ t83_ t84_ t85_ t86_ t87_ t88_ t89_ t90_ t91_ t92_ t93_ t94_ t95_ t96_ t97_ t98_ t99_ t100_ t101_ t102_ t103_ t104_ t105_ t106_ t107_ t108_ t109_ t110_ t111_ t112_ t113_ t114_ t115_ t116_ t117_ t118_ t119_ t120_ t121_ t122_ t123_ t124_ t125_ t126_ t127_ t128_ t129_ t130_ t131_ t132_ t133_ t134_ t135_ t136_ t137_ t138_ t139_ t140_ t141_ t142_ t143_ t144_ t145_ t146_ t147_ t148_ t149_ t150_ : Value} {d_ : List Deferred} (c : CCc ops { tmps := #[t0_, t1_, t2_, t3_, t4_, t5_, t6_, t7_, t8_, t9_, t10_, t11_, t12_, t13_, t14_, t15_, t16_, t17_, t18_, t19_, t20_, t21_, t22_, t23_, t24_, t25_, t26_, t27_, t28_, t29_, t30_, t31_, t32_, t33_, t34_, t35_, t36_, t37_, t38_, t39_, t40_, t41_, t42_, t43_, t44_, t45_, t46_, t47_, t48_, t49_, t50_, t51_, t52_, t53_, t54_, t55_, t56_, t57_, t58_, t59_, t60_, t61_, t62_, t63_, t64_, t65_, t66_, t67_, t68_, t69_, t70_, t71_, t72_, t73_, t74_, t75_, t76_, t77_, t78_, t79_, t80_, t81_, t82_, t83_, t84_, t85_, t86_, t87_, t88_, t89_, t90_, t91_, t92_, t93_, t94_, t95_, t96_, t97_, t98_, t99_, t100_, t101_, t102_, t103_, t104_, t105_, t106_, t107_, t108_, t109_, t110_, t111_, t112_, t113_, t114_, t115_, t116_, t117_, t118_, t119_, t120_, t121_, t122_, t123_, t124_, t125_, t126_, t127_, t128_, t129_, t130_, t131_, t132_, t133_, t134_, t135_, t136_, t137_, t138_, t139_, t140_, t141_, t142_, t143_, t144_, t145_, t146_, t147_, t148_, t149_, t150_], defers := d_ } W0 B12 B13 u12 u13 ps qs) {id : Nat} (fin : ∀ (x89 x90 x91 x92 x93 x94 x95 x96 x14 x15 : Value) (W : World), RdC W x14 (ps.map prOf) → RdC W x15 (qs.map prOf) → Nx W0 W → Q .normal { tmps := #[t0_, t1_, t2_, t3_, t4_, t5_, t6_, t7_, t8_, t9_, t10_, t11_, t12_, t13_, x14, x15, t16_, t17_, t18_, t19_, t20_, t21_, t22_, t23_, t24_, t25_, t26_, t27_, t28_, t29_, t30_, t31_, t32_, t33_, t34_, t35_, t36_, t37_, t38_, t39_, t40_, t41_, t42_, t43_, t44_, t45_, t46_, t47_, t48_, t49_, t50_, t51_, t52_, t53_, t54_, t55_, t56_, t57_, t58_, t59_, t60_, t61_, t62_, t63_, t64_, t65_, t66_, t67_, t68_, t69_, t70_, t71_, t72_, t73_, t74_, t75_, t76_, t77_, t78_, t79_, t80_, t81_, t82_, t83_, t84_, t85_, t86_, t87_, t88_, x89, x90, x91, x92, x93, x94, x95, x96, t97_, t98_, t99_, t100_, t101_, t102_, t103_, t104_, t105_, t106_, t107_, t108_, t109_, t110_, t111_, t112_, t113_, t114_, t115_, t116_, t117_, t118_, t119_, t120_, t121_, t122_, t123_, t124_, t125_, t126_, t127_, t128_, t129_, t130_, t131_, t132_, t133_, t134_, t135_, t136_, t137_, t138_, t139_, t140_, t141_, t142_, t143_, t144_, t145_, t146_, t147_, t148_, t149_, t150_], defers := d_ } W) : (Code.region id ops true).wp Try.prog Q { tmps := #[t0_, t1_, t2_, t3_, t4_, t5_, t6_, t7_, t8_, t9_, t10_, t11_, t12_, t13_, t14_, t15_, t16_, t17_, t18_, t19_, t20_, t21_, t22_, t23_, t24_, t25_, t26_, t27_, t28_, t29_, t30_, t31_, t32_, t33_, t34_, t35_, t36_, t37_, t38_, t39_, t40_, t41_, t42_, t43_, t44_, t45_, t46_, t47_, t48_, t49_, t50_, t51_, t52_, t53_, t54_, t55_, t56_, t57_, t58_, t59_, t60_, t61_, t62_, t63_, t64_, t65_, t66_, t67_, t68_, t69_, t70_, t71_, t72_, t73_, t74_, t75_, t76_, t77_, t78_, t79_, t80_, t81_, t82_, t83_, t84_, t85_, t86_, t87_, t88_, t89_, t90_, t91_, t92_, t93_, t94_, t95_, t96_, t97_, t98_, t99_, t100_, t101_, t102_, t103_, t104_, t105_, t106_, t107_, t108_, t109_, t110_, t111_, t112_, t113_, t114_, t115_, t116_, t117_, t118_, t119_, t120_, t121_, t122_, t123_, t124_, t125_, t126_, t127_, t128_, t129_, t130_, t131_, t132_, t133_, t134_, t135_, t136_, t137_, t138_, t139_, t140_, t141_, t142_, t143_, t144_, t145_, t146_, t147_, t148_, t149_, t150_], defers := d_ } W0 := by
  refine rgCc c ?_
  intro x89 x90 x91 x92 x93 x94 x95 x96 x14 x15 W
  have e : ((((((((((#[t0_, t1_, t2_, t3_, t4_, t5_, t6_, t7_, t8_, t9_, t10_, t11_, t12_, t13_, t14_, t15_, t16_, t17_, t18_, t19_, t20_, t21_, t22_, t23_, t24_, t25_, t26_, t27_, t28_, t29_, t30_, t31_, t32_, t33_, t34_, t35_, t36_, t37_, t38_, t39_, t40_, t41_, t42_, t43_, t44_, t45_, t46_, t47_, t48_, t49_, t50_, t51_, t52_, t53_, t54_, t55_, t56_, t57_, t58_, t59_, t60_, t61_, t62_, t63_, t64_, t65_, t66_, t67_, t68_, t69_, t70_, t71_, t72_, t73_, t74_, t75_, t76_, t77_, t78_, t79_, t80_, t81_, t82_, t83_, t84_, t85_, t86_, t87_, t88_, t89_, t90_, t91_, t92_, t93_, t94_, t95_, t96_, t97_, t98_, t99_, t100_, t101_, t102_, t103_, t104_, t105_, t106_, t107_, t108_, t109_, t110_, t111_, t112_, t113_, t114_, t115_, t116_, t117_, t118_, t119_, t120_, t121_, t122_, t123_, t124_, t125_, t126_, t127_, t128_, t129_, t130_, t131_, t132_, t133_, t134_, t135_, t136_, t137_, t138_, t139_, t140_, t141_, t142_, t143_, t144_, t145_, t146_, t147_, t148_, t149_, t150_].setIfInBounds 89 x89).setIfInBounds 90 x90).setIfInBounds 91 x91).setIfInBounds 92 x92).setIfInBounds 93 x93).setIfInBounds 94 x94).setIfInBounds 95 x95).setIfInBounds 96 x96).setIfInBounds 14 x14).setIfInBounds 15 x15) = #[t0_, t1_, t2_, t3_, t4_, t5_, t6_, t7_, t8_, t9_, t10_, t11_, t12_, t13_, x14, x15, t16_, t17_, t18_, t19_, t20_, t21_, t22_, t23_, t24_, t25_, t26_, t27_, t28_, t29_, t30_, t31_, t32_, t33_, t34_, t35_, t36_, t37_, t38_, t39_, t40_, t41_, t42_, t43_, t44_, t45_, t46_, t47_, t48_, t49_, t50_, t51_, t52_, t53_, t54_, t55_, t56_, t57_, t58_, t59_, t60_, t61_, t62_, t63_, t64_, t65_, t66_, t67_, t68_, t69_, t70_, t71_, t72_, t73_, t74_, t75_, t76_, t77_, t78_, t79_, t80_, t81_, t82_, t83_, t84_, t85_, t86_, t87_, t88_, x89, x90, x91, x92, x93, x94, x95, x96, t97_, t98_, t99_, t100_, t101_, t102_, t103_, t104_, t105_, t106_, t107_, t108_, t109_, t110_, t111_, t112_, t113_, t114_, t115_, t116_, t117_, t118_, t119_, t120_, t121_, t122_, t123_, t124_, t125_, t126_, t127_, t128_, t129_, t130_, t131_, t132_, t133_, t134_, t135_, t136_, t137_, t138_, t139_, t140_, t141_, t142_, t143_, t144_, t145_, t146_, t147_, t148_, t149_, t150_] := by kernel_rfl
  have f := fin x89 x90 x91 x92 x93 x94 x95 x96 x14 x15 W
  rw [← e] at f
  exact f
end
section
variable {ops : Array Oper} {a0 : Act} {W0 : World} {Q : Exit → Act → World → Prop} {B7 B12 B13 : Nat} {u7 u12 u13 : Option Addr} {key : Str} {v14 v15 : Value} {xs ps qs : List KV}
structure CCd (ops : Array Oper) (a0 : Act) (W0 : World) (B7 B12 B13 : Nat) (u7 u12 u13 : Option Addr) (key : Str) (v14 v15 : Value) (xs ps qs : List KV) : Prop where
  hops : rops Try.f7 28 = ops
  hz : a0.tmps.size = 151
  z7 : a0.eval (.tmp 7) = .pointer (some ⟨B7, 0, none⟩)
  z12 : a0.eval (.tmp 12) = .pointer (some ⟨B12, 0, none⟩)
  z13 : a0.eval (.tmp 13) = .pointer (some ⟨B13, 0, none⟩)
  z2 : a0.eval (.tmp 2) = .string (S key)
  z14 : a0.eval (.tmp 14) = v14
  z15 : a0.eval (.tmp 15) = v15
  b7 : BlkIs W0 B7 24 #[.pointer u7]
  t7 : Tb W0 (.agg #[.pointer u7]) xs
  xsn : xs.length ≤ 100000000
  b12 : BlkIs W0 B12 24 #[.pointer u12]
  b13 : BlkIs W0 B13 24 #[.pointer u13]
  t12 : Tb W0 (.agg #[.pointer u12]) ps
  t13 : Tb W0 (.agg #[.pointer u13]) qs
  psn : ps.length ≤ 100000000
  qsn : qs.length ≤ 100000000
  hp : ps.length = place key xs
  hs : ps.length + qs.length = xs.length
  hc : ps ++ qs = xs
  r14 : RdC W0 v14 (ps.map prOf)
  r15 : RdC W0 v15 (qs.map prOf)
def KCd (W0 : World) (B7 B12 B13 : Nat) (u7 u12 u13 : Option Addr) (key : Str) (v14 v15 : Value) (xs ps qs : List KV) : List Kd := [Kd.eq (.agg #[.pointer u12]), Kd.eq (.int .i64 (ps.length : Int)), Kd.eq (.agg #[.pointer u7]), Kd.eq (.string (S key)), Kd.eq (.int .i64 (place key xs : Nat)), Kd.eq (.bool true), Kd.eq (.bool true), Kd.eq (.agg #[.pointer u12]), Kd.eq (.int .i64 (ps.length : Int)), Kd.eq (.agg #[.pointer u13]), Kd.eq (.int .i64 (qs.length : Int)), Kd.eq (.int .i64 ((ps.length : Int) + (qs.length : Int))), Kd.eq (.agg #[.pointer u7]), Kd.eq (.int .i64 (xs.length : Int)), Kd.eq (.bool true), Kd.eq (.bool true), Kd.eq (.bool true), Kd.till 19 (fun v W => Row W W0.heap.size v []) Row.nx, Kd.eq (v14), Kd.till 21 (fun v W => Row W W0.heap.size v (ps.map prOf)) Row.nx, Kd.eq (v15), Kd.of (fun v W => Rd W v (ps.map prOf ++ qs.map prOf)) Rd.nx, Kd.eq (.agg #[.pointer u7]), Kd.eq (.agg #[.pointer u7]), Kd.eq (.int .i64 (xs.length : Int)), Kd.of (fun v W => Rd W v (xs.map prOf)) Rd.nx, Kd.eq (.bool true), Kd.eq (.bool true), Kd.eq (.bool true)]
/-- What is kept. -/
abbrev ICd (W0 : World) (B7 B12 B13 : Nat) (u7 u12 u13 : Option Addr) (key : Str) (v14 v15 : Value) (xs ps qs : List KV) : Array Bool → World → Prop := (fun _ W => Nx W0 W)
theorem hCd_0 (c : CCd ops a0 W0 B7 B12 B13 u7 u12 u13 key v14 v15 xs ps qs) : ops[0]? = some { dst := some 123, op := .load 24 (.tmp 12), type := 24, pos := "law.go:183", after := #[], guard := none } := by rw [← c.hops]; rfl
theorem hCd_1 (c : CCd ops a0 W0 B7 B12 B13 u7 u12 u13 key v14 v15 xs ps qs) : ops[1]? = some { dst := some 124, op := .call { callee := .value (.func 13), args := #[.tmp 123], argTypes := #[24] }, type := 3, pos := "law.go:183", after := #[{ on := 0, ground := .data }], guard := none } := by rw [← c.hops]; rfl
theorem hCd_2 (c : CCd ops a0 W0 B7 B12 B13 u7 u12 u13 key v14 v15 xs ps qs) : ops[2]? = some { dst := some 125, op := .load 24 (.tmp 7), type := 24, pos := "law.go:183", after := #[], guard := none } := by rw [← c.hops]; rfl
theorem hCd_3 (c : CCd ops a0 W0 B7 B12 B13 u7 u12 u13 key v14 v15 xs ps qs) : ops[3]? = some { dst := some 126, op := .move (.tmp 2), type := 9, pos := "law.go:183", after := #[], guard := none } := by rw [← c.hops]; rfl
theorem hCd_4 (c : CCd ops a0 W0 B7 B12 B13 u7 u12 u13 key v14 v15 xs ps qs) : ops[4]? = some { dst := some 127, op := .call { callee := .value (.func 25), args := #[.tmp 125, .tmp 126], argTypes := #[24, 9] }, type := 3, pos := "law.go:183", after := #[{ on := 2, ground := .data }, { on := 3, ground := .data }, { on := 1, ground := .chain }], guard := none } := by rw [← c.hops]; rfl
theorem hCd_5 (c : CCd ops a0 W0 B7 B12 B13 u7 u12 u13 key v14 v15 xs ps qs) : ops[5]? = some { dst := some 128, op := .binOp .eql 3 (.tmp 124) (.tmp 127) 3, type := 4, pos := "law.go:183", after := #[{ on := 1, ground := .data }, { on := 4, ground := .data }], guard := none } := by rw [← c.hops]; rfl
theorem hCd_6 (c : CCd ops a0 W0 B7 B12 B13 u7 u12 u13 key v14 v15 xs ps qs) : ops[6]? = some { dst := some 129, op := .move (.tmp 128), type := 4, pos := "law.go:183", after := #[{ on := 5, ground := .data }, { on := 4, ground := .chain }], guard := none } := by rw [← c.hops]; rfl
theorem hCd_7 (c : CCd ops a0 W0 B7 B12 B13 u7 u12 u13 key v14 v15 xs ps qs) : ops[7]? = some { dst := some 130, op := .load 24 (.tmp 12), type := 24, pos := "law.go:183", after := #[{ on := 6, ground := .guard }], guard := some (6, true) } := by rw [← c.hops]; rfl
theorem hCd_8 (c : CCd ops a0 W0 B7 B12 B13 u7 u12 u13 key v14 v15 xs ps qs) : ops[8]? = some { dst := some 131, op := .call { callee := .value (.func 13), args := #[.tmp 130], argTypes := #[24] }, type := 3, pos := "law.go:183", after := #[{ on := 7, ground := .data }, { on := 6, ground := .chain }, { on := 6, ground := .guard }], guard := some (6, true) } := by rw [← c.hops]; rfl
theorem hCd_9 (c : CCd ops a0 W0 B7 B12 B13 u7 u12 u13 key v14 v15 xs ps qs) : ops[9]? = some { dst := some 132, op := .load 24 (.tmp 13), type := 24, pos := "law.go:183", after := #[{ on := 6, ground := .guard }], guard := some (6, true) } := by rw [← c.hops]; rfl
theorem hCd_10 (c : CCd ops a0 W0 B7 B12 B13 u7 u12 u13 key v14 v15 xs ps qs) : ops[10]? = some { dst := some 133, op := .call { callee := .value (.func 13), args := #[.tmp 132], argTypes := #[24] }, type := 3, pos := "law.go:183", after := #[{ on := 9, ground := .data }, { on := 8, ground := .chain }, { on := 6, ground := .guard }], guard := some (6, true) } := by rw [← c.hops]; rfl
theorem hCd_11 (c : CCd ops a0 W0 B7 B12 B13 u7 u12 u13 key v14 v15 xs ps qs) : ops[11]? = some { dst := some 134, op := .binOp .add 3 (.tmp 131) (.tmp 133) 3, type := 3, pos := "law.go:183", after := #[{ on := 8, ground := .data }, { on := 10, ground := .data }, { on := 6, ground := .guard }], guard := some (6, true) } := by rw [← c.hops]; rfl
theorem hCd_12 (c : CCd ops a0 W0 B7 B12 B13 u7 u12 u13 key v14 v15 xs ps qs) : ops[12]? = some { dst := some 135, op := .load 24 (.tmp 7), type := 24, pos := "law.go:183", after := #[{ on := 6, ground := .guard }], guard := some (6, true) } := by rw [← c.hops]; rfl
theorem hCd_13 (c : CCd ops a0 W0 B7 B12 B13 u7 u12 u13 key v14 v15 xs ps qs) : ops[13]? = some { dst := some 136, op := .call { callee := .value (.func 13), args := #[.tmp 135], argTypes := #[24] }, type := 3, pos := "law.go:183", after := #[{ on := 12, ground := .data }, { on := 10, ground := .chain }, { on := 6, ground := .guard }], guard := some (6, true) } := by rw [← c.hops]; rfl
theorem hCd_14 (c : CCd ops a0 W0 B7 B12 B13 u7 u12 u13 key v14 v15 xs ps qs) : ops[14]? = some { dst := some 137, op := .binOp .eql 3 (.tmp 134) (.tmp 136) 3, type := 4, pos := "law.go:183", after := #[{ on := 11, ground := .data }, { on := 13, ground := .data }, { on := 6, ground := .guard }], guard := some (6, true) } := by rw [← c.hops]; rfl
theorem hCd_15 (c : CCd ops a0 W0 B7 B12 B13 u7 u12 u13 key v14 v15 xs ps qs) : ops[15]? = some { dst := some 138, op := .pick (.tmp 129) (.tmp 137) (.const (.bool false)), type := 4, pos := "law.go:183", after := #[{ on := 6, ground := .data }, { on := 14, ground := .data }], guard := none } := by rw [← c.hops]; rfl
theorem hCd_16 (c : CCd ops a0 W0 B7 B12 B13 u7 u12 u13 key v14 v15 xs ps qs) : ops[16]? = some { dst := some 139, op := .move (.tmp 138), type := 4, pos := "law.go:183", after := #[{ on := 15, ground := .data }, { on := 13, ground := .chain }], guard := none } := by rw [← c.hops]; rfl
theorem hCd_17 (c : CCd ops a0 W0 B7 B12 B13 u7 u12 u13 key v14 v15 xs ps qs) : ops[17]? = some { dst := some 140, op := .buildSlice 33 0 #[], type := 33, pos := "law.go:183", after := #[{ on := 16, ground := .guard }], guard := some (16, true) } := by rw [← c.hops]; rfl
theorem hCd_18 (c : CCd ops a0 W0 B7 B12 B13 u7 u12 u13 key v14 v15 xs ps qs) : ops[18]? = some { dst := some 141, op := .move (.tmp 14), type := 33, pos := "law.go:183", after := #[{ on := 16, ground := .guard }], guard := some (16, true) } := by rw [← c.hops]; rfl
theorem hCd_19 (c : CCd ops a0 W0 B7 B12 B13 u7 u12 u13 key v14 v15 xs ps qs) : ops[19]? = some { dst := some 142, op := .call { callee := .builtin .append, args := #[.tmp 140, .tmp 141], argTypes := #[33, 33] }, type := 33, pos := "law.go:183", after := #[{ on := 17, ground := .data }, { on := 18, ground := .data }, { on := 16, ground := .chain }, { on := 16, ground := .guard }], guard := some (16, true) } := by rw [← c.hops]; rfl
theorem hCd_20 (c : CCd ops a0 W0 B7 B12 B13 u7 u12 u13 key v14 v15 xs ps qs) : ops[20]? = some { dst := some 143, op := .move (.tmp 15), type := 33, pos := "law.go:183", after := #[{ on := 16, ground := .guard }], guard := some (16, true) } := by rw [← c.hops]; rfl
theorem hCd_21 (c : CCd ops a0 W0 B7 B12 B13 u7 u12 u13 key v14 v15 xs ps qs) : ops[21]? = some { dst := some 144, op := .call { callee := .builtin .append, args := #[.tmp 142, .tmp 143], argTypes := #[33, 33] }, type := 33, pos := "law.go:183", after := #[{ on := 19, ground := .data }, { on := 20, ground := .data }, { on := 19, ground := .chain }, { on := 16, ground := .guard }], guard := some (16, true) } := by rw [← c.hops]; rfl
theorem hCd_22 (c : CCd ops a0 W0 B7 B12 B13 u7 u12 u13 key v14 v15 xs ps qs) : ops[22]? = some { dst := some 145, op := .load 24 (.tmp 7), type := 24, pos := "law.go:183", after := #[{ on := 16, ground := .guard }], guard := some (16, true) } := by rw [← c.hops]; rfl
theorem hCd_23 (c : CCd ops a0 W0 B7 B12 B13 u7 u12 u13 key v14 v15 xs ps qs) : ops[23]? = some { dst := some 146, op := .load 24 (.tmp 7), type := 24, pos := "law.go:183", after := #[{ on := 16, ground := .guard }], guard := some (16, true) } := by rw [← c.hops]; rfl
theorem hCd_24 (c : CCd ops a0 W0 B7 B12 B13 u7 u12 u13 key v14 v15 xs ps qs) : ops[24]? = some { dst := some 147, op := .call { callee := .value (.func 13), args := #[.tmp 146], argTypes := #[24] }, type := 3, pos := "law.go:183", after := #[{ on := 23, ground := .data }, { on := 21, ground := .chain }, { on := 16, ground := .guard }], guard := some (16, true) } := by rw [← c.hops]; rfl
theorem hCd_25 (c : CCd ops a0 W0 B7 B12 B13 u7 u12 u13 key v14 v15 xs ps qs) : ops[25]? = some { dst := some 148, op := .call { callee := .value (.func 23), args := #[.tmp 145, .const (.string { data := #[] }), .const (.string { data := #[] }), .tmp 147], argTypes := #[24, 9, 9, 3] }, type := 33, pos := "law.go:183", after := #[{ on := 22, ground := .data }, { on := 24, ground := .data }, { on := 24, ground := .chain }, { on := 16, ground := .guard }], guard := some (16, true) } := by rw [← c.hops]; rfl
theorem hCd_26 (c : CCd ops a0 W0 B7 B12 B13 u7 u12 u13 key v14 v15 xs ps qs) : ops[26]? = some { dst := some 149, op := .call { callee := .value (.func 22), args := #[.tmp 144, .tmp 148], argTypes := #[33, 33] }, type := 4, pos := "law.go:183", after := #[{ on := 21, ground := .data }, { on := 25, ground := .data }, { on := 25, ground := .chain }, { on := 16, ground := .guard }], guard := some (16, true) } := by rw [← c.hops]; rfl
theorem hCd_27 (c : CCd ops a0 W0 B7 B12 B13 u7 u12 u13 key v14 v15 xs ps qs) : ops[27]? = some { dst := some 150, op := .pick (.tmp 139) (.tmp 149) (.const (.bool false)), type := 4, pos := "law.go:183", after := #[{ on := 16, ground := .data }, { on := 26, ground := .data }], guard := none } := by rw [← c.hops]; rfl
theorem hCd_28 (c : CCd ops a0 W0 B7 B12 B13 u7 u12 u13 key v14 v15 xs ps qs) : ops[28]? = some { dst := some 6, op := .assign (.tmp 150), type := 4, pos := "law.go:183", after := #[{ on := 27, ground := .data }, { on := 26, ground := .chain }, { on := 0, ground := .phase }, { on := 1, ground := .phase }, { on := 2, ground := .phase }, { on := 3, ground := .phase }, { on := 4, ground := .phase }, { on := 5, ground := .phase }, { on := 6, ground := .phase }, { on := 7, ground := .phase }, { on := 8, ground := .phase }, { on := 9, ground := .phase }, { on := 10, ground := .phase }, { on := 11, ground := .phase }, { on := 12, ground := .phase }, { on := 13, ground := .phase }, { on := 14, ground := .phase }, { on := 15, ground := .phase }, { on := 16, ground := .phase }, { on := 17, ground := .phase }, { on := 18, ground := .phase }, { on := 19, ground := .phase }, { on := 20, ground := .phase }, { on := 21, ground := .phase }, { on := 22, ground := .phase }, { on := 23, ground := .phase }, { on := 24, ground := .phase }, { on := 25, ground := .phase }, { on := 26, ground := .phase }, { on := 27, ground := .phase }], guard := none } := by rw [← c.hops]; rfl
theorem huCd (c : CCd ops a0 W0 B7 B12 B13 u7 u12 u13 key v14 v15 xs ps qs) : dstB ops = true := by rw [← c.hops]; kernel_rfl
theorem hoCd (c : CCd ops a0 W0 B7 B12 B13 u7 u12 u13 key v14 v15 xs ps qs) : ordB ops = true := by rw [← c.hops]; kernel_rfl
theorem hnCd (c : CCd ops a0 W0 B7 B12 B13 u7 u12 u13 key v14 v15 xs ps qs) : ops.size = 29 := by rw [← c.hops]; rfl
theorem hdCd (c : CCd ops a0 W0 B7 B12 B13 u7 u12 u13 key v14 v15 xs ps qs) : dsts ops = [123, 124, 125, 126, 127, 128, 129, 130, 131, 132, 133, 134, 135, 136, 137, 138, 139, 140, 141, 142, 143, 144, 145, 146, 147, 148, 149, 150, 6] := by rw [← c.hops]; rfl
theorem oCd_7 (c : CCd ops a0 W0 B7 B12 B13 u7 u12 u13 key v14 v15 xs ps qs) : oldB ops 7 = true := by rw [← c.hops]; kernel_rfl
theorem oCd_12 (c : CCd ops a0 W0 B7 B12 B13 u7 u12 u13 key v14 v15 xs ps qs) : oldB ops 12 = true := by rw [← c.hops]; kernel_rfl
theorem oCd_13 (c : CCd ops a0 W0 B7 B12 B13 u7 u12 u13 key v14 v15 xs ps qs) : oldB ops 13 = true := by rw [← c.hops]; kernel_rfl
theorem oCd_2 (c : CCd ops a0 W0 B7 B12 B13 u7 u12 u13 key v14 v15 xs ps qs) : oldB ops 2 = true := by rw [← c.hops]; kernel_rfl
theorem oCd_14 (c : CCd ops a0 W0 B7 B12 B13 u7 u12 u13 key v14 v15 xs ps qs) : oldB ops 14 = true := by rw [← c.hops]; kernel_rfl
theorem oCd_15 (c : CCd ops a0 W0 B7 B12 B13 u7 u12 u13 key v14 v15 xs ps qs) : oldB ops 15 = true := by rw [← c.hops]; kernel_rfl
theorem sCd_0 (c : CCd ops a0 W0 B7 B12 B13 u7 u12 u13 key v14 v15 xs ps qs) : Stp Try.prog ops Q a0 (KCd W0 B7 B12 B13 u7 u12 u13 key v14 v15 xs ps qs) (ICd W0 B7 B12 B13 u7 u12 u13 key v14 v15 xs ps qs) 0 := stp_val (huCd c) (hCd_0 c) rfl (by rw [c.hz]; decide) fun l a W hF hn hd => ⟨want_none rfl, by
    have e12 : a.eval (.tmp 12) = .pointer (some ⟨B12, 0, none⟩) := (hF.old (oCd_12 c)).trans c.z12
    have m := c.b12.at0 hF.inv
    refine ⟨.agg #[.pointer u12], W, ?_, rfl, Nx.refl W, hF.inv⟩
    show (execOp a.eval _).run Try.prog W = _
    simp only [execOp, e12]
    simp [go_sem, m]⟩
theorem sCd_1 (c : CCd ops a0 W0 B7 B12 B13 u7 u12 u13 key v14 v15 xs ps qs) : Stp Try.prog ops Q a0 (KCd W0 B7 B12 B13 u7 u12 u13 key v14 v15 xs ps qs) (ICd W0 B7 B12 B13 u7 u12 u13 key v14 v15 xs ps qs) 1 := stp_call (huCd c) (hCd_1 c) rfl (by rw [c.hz]; decide) fun l a W hF hn hd => ⟨want_none rfl, by
    have e123 : a.eval (.tmp 123) = .agg #[.pointer u12] := by obtain ⟨v, e, p⟩ := hF.get (hCd_0 c) rfl (hd.at 0 (by rfl)); exact e.trans p
    refine ⟨13, #[.agg #[.pointer u12]], _, run_enter rfl (by simp only [List.map_toArray, List.map_cons, List.map_nil, e123]) (eval_func _ _) (enters_of Try.func13 (by kernel_rfl) rfl), tsize_any W _ ps (c.t12.nx hF.inv), ?_⟩
    rintro e W' ⟨rfl, hn2⟩; exact ⟨_, rfl, rfl, hn2, (hF.inv.trans hn2)⟩⟩
theorem sCd_2 (c : CCd ops a0 W0 B7 B12 B13 u7 u12 u13 key v14 v15 xs ps qs) : Stp Try.prog ops Q a0 (KCd W0 B7 B12 B13 u7 u12 u13 key v14 v15 xs ps qs) (ICd W0 B7 B12 B13 u7 u12 u13 key v14 v15 xs ps qs) 2 := stp_val (huCd c) (hCd_2 c) rfl (by rw [c.hz]; decide) fun l a W hF hn hd => ⟨want_none rfl, by
    have e7 : a.eval (.tmp 7) = .pointer (some ⟨B7, 0, none⟩) := (hF.old (oCd_7 c)).trans c.z7
    have m := c.b7.at0 hF.inv
    refine ⟨.agg #[.pointer u7], W, ?_, rfl, Nx.refl W, hF.inv⟩
    show (execOp a.eval _).run Try.prog W = _
    simp only [execOp, e7]
    simp [go_sem, m]⟩
theorem sCd_3 (c : CCd ops a0 W0 B7 B12 B13 u7 u12 u13 key v14 v15 xs ps qs) : Stp Try.prog ops Q a0 (KCd W0 B7 B12 B13 u7 u12 u13 key v14 v15 xs ps qs) (ICd W0 B7 B12 B13 u7 u12 u13 key v14 v15 xs ps qs) 3 := stp_val (huCd c) (hCd_3 c) rfl (by rw [c.hz]; decide) fun l a W hF hn hd => ⟨want_none rfl, by
    have e2 : a.eval (.tmp 2) = .string (S key) := (hF.old (oCd_2 c)).trans c.z2
    exact ⟨.string (S key), W, by show Result.ok (Next.value (a.eval _)) W = _; rw [e2], rfl, Nx.refl W, hF.inv⟩⟩
theorem sCd_4 (c : CCd ops a0 W0 B7 B12 B13 u7 u12 u13 key v14 v15 xs ps qs) : Stp Try.prog ops Q a0 (KCd W0 B7 B12 B13 u7 u12 u13 key v14 v15 xs ps qs) (ICd W0 B7 B12 B13 u7 u12 u13 key v14 v15 xs ps qs) 4 := stp_call (huCd c) (hCd_4 c) rfl (by rw [c.hz]; decide) fun l a W hF hn hd => ⟨want_none rfl, by
    have e125 : a.eval (.tmp 125) = .agg #[.pointer u7] := by obtain ⟨v, e, p⟩ := hF.get (hCd_2 c) rfl (hd.at 2 (by rfl)); exact e.trans p
    have e126 : a.eval (.tmp 126) = .string (S key) := by obtain ⟨v, e, p⟩ := hF.get (hCd_3 c) rfl (hd.at 3 (by rfl)); exact e.trans p
    refine ⟨25, #[.agg #[.pointer u7], .string (S key)], _, run_enter rfl (by simp only [List.map_toArray, List.map_cons, List.map_nil, e125, e126]) (eval_func _ _) (enters_of Try.func25 (by kernel_rfl) rfl), tplace_any W _ xs key (c.t7.nx hF.inv) c.xsn, ?_⟩
    rintro e W' ⟨rfl, hn2⟩; exact ⟨_, rfl, rfl, hn2, (hF.inv.trans hn2)⟩⟩
theorem sCd_5 (c : CCd ops a0 W0 B7 B12 B13 u7 u12 u13 key v14 v15 xs ps qs) : Stp Try.prog ops Q a0 (KCd W0 B7 B12 B13 u7 u12 u13 key v14 v15 xs ps qs) (ICd W0 B7 B12 B13 u7 u12 u13 key v14 v15 xs ps qs) 5 := stp_val (huCd c) (hCd_5 c) rfl (by rw [c.hz]; decide) fun l a W hF hn hd => ⟨want_none rfl, by
    have e124 : a.eval (.tmp 124) = .int .i64 (ps.length : Int) := by obtain ⟨v, e, p⟩ := hF.get (hCd_1 c) rfl (hd.at 1 (by rfl)); exact e.trans p
    have e127 : a.eval (.tmp 127) = .int .i64 (place key xs : Nat) := by obtain ⟨v, e, p⟩ := hF.get (hCd_4 c) rfl (hd.at 4 (by rfl)); exact e.trans p
    have q := c.hp
    refine ⟨.bool true, W, ?_, rfl, Nx.refl W, hF.inv⟩
    show (execOp a.eval _).run Try.prog W = _
    simp only [execOp, e124, e127]
    simp [go_sem, q]⟩
theorem sCd_6 (c : CCd ops a0 W0 B7 B12 B13 u7 u12 u13 key v14 v15 xs ps qs) : Stp Try.prog ops Q a0 (KCd W0 B7 B12 B13 u7 u12 u13 key v14 v15 xs ps qs) (ICd W0 B7 B12 B13 u7 u12 u13 key v14 v15 xs ps qs) 6 := stp_val (huCd c) (hCd_6 c) rfl (by rw [c.hz]; decide) fun l a W hF hn hd => ⟨want_none rfl, by
    have e128 : a.eval (.tmp 128) = .bool true := by obtain ⟨v, e, p⟩ := hF.get (hCd_5 c) rfl (hd.at 5 (by rfl)); exact e.trans p
    exact ⟨.bool true, W, by show Result.ok (Next.value (a.eval _)) W = _; rw [e128], rfl, Nx.refl W, hF.inv⟩⟩
theorem sCd_7 (c : CCd ops a0 W0 B7 B12 B13 u7 u12 u13 key v14 v15 xs ps qs) : Stp Try.prog ops Q a0 (KCd W0 B7 B12 B13 u7 u12 u13 key v14 v15 xs ps qs) (ICd W0 B7 B12 B13 u7 u12 u13 key v14 v15 xs ps qs) 7 := stp_val (huCd c) (hCd_7 c) rfl (by rw [c.hz]; decide) fun l a W hF hn hd => ⟨hF.want (k := 6) (b := true) rfl (hCd_6 c) rfl (hd.at 6 (by rfl)) (fun v h => h), by
    have e12 : a.eval (.tmp 12) = .pointer (some ⟨B12, 0, none⟩) := (hF.old (oCd_12 c)).trans c.z12
    have m := c.b12.at0 hF.inv
    refine ⟨.agg #[.pointer u12], W, ?_, rfl, Nx.refl W, hF.inv⟩
    show (execOp a.eval _).run Try.prog W = _
    simp only [execOp, e12]
    simp [go_sem, m]⟩
theorem sCd_8 (c : CCd ops a0 W0 B7 B12 B13 u7 u12 u13 key v14 v15 xs ps qs) : Stp Try.prog ops Q a0 (KCd W0 B7 B12 B13 u7 u12 u13 key v14 v15 xs ps qs) (ICd W0 B7 B12 B13 u7 u12 u13 key v14 v15 xs ps qs) 8 := stp_call (huCd c) (hCd_8 c) rfl (by rw [c.hz]; decide) fun l a W hF hn hd => ⟨hF.want (k := 6) (b := true) rfl (hCd_6 c) rfl (hd.at 6 (by rfl)) (fun v h => h), by
    have e130 : a.eval (.tmp 130) = .agg #[.pointer u12] := by obtain ⟨v, e, p⟩ := hF.get (hCd_7 c) rfl (hd.at 7 (by rfl)); exact e.trans p
    refine ⟨13, #[.agg #[.pointer u12]], _, run_enter rfl (by simp only [List.map_toArray, List.map_cons, List.map_nil, e130]) (eval_func _ _) (enters_of Try.func13 (by kernel_rfl) rfl), tsize_any W _ ps (c.t12.nx hF.inv), ?_⟩
    rintro e W' ⟨rfl, hn2⟩; exact ⟨_, rfl, rfl, hn2, (hF.inv.trans hn2)⟩⟩
theorem sCd_9 (c : CCd ops a0 W0 B7 B12 B13 u7 u12 u13 key v14 v15 xs ps qs) : Stp Try.prog ops Q a0 (KCd W0 B7 B12 B13 u7 u12 u13 key v14 v15 xs ps qs) (ICd W0 B7 B12 B13 u7 u12 u13 key v14 v15 xs ps qs) 9 := stp_val (huCd c) (hCd_9 c) rfl (by rw [c.hz]; decide) fun l a W hF hn hd => ⟨hF.want (k := 6) (b := true) rfl (hCd_6 c) rfl (hd.at 6 (by rfl)) (fun v h => h), by
    have e13 : a.eval (.tmp 13) = .pointer (some ⟨B13, 0, none⟩) := (hF.old (oCd_13 c)).trans c.z13
    have m := c.b13.at0 hF.inv
    refine ⟨.agg #[.pointer u13], W, ?_, rfl, Nx.refl W, hF.inv⟩
    show (execOp a.eval _).run Try.prog W = _
    simp only [execOp, e13]
    simp [go_sem, m]⟩
theorem sCd_10 (c : CCd ops a0 W0 B7 B12 B13 u7 u12 u13 key v14 v15 xs ps qs) : Stp Try.prog ops Q a0 (KCd W0 B7 B12 B13 u7 u12 u13 key v14 v15 xs ps qs) (ICd W0 B7 B12 B13 u7 u12 u13 key v14 v15 xs ps qs) 10 := stp_call (huCd c) (hCd_10 c) rfl (by rw [c.hz]; decide) fun l a W hF hn hd => ⟨hF.want (k := 6) (b := true) rfl (hCd_6 c) rfl (hd.at 6 (by rfl)) (fun v h => h), by
    have e132 : a.eval (.tmp 132) = .agg #[.pointer u13] := by obtain ⟨v, e, p⟩ := hF.get (hCd_9 c) rfl (hd.at 9 (by rfl)); exact e.trans p
    refine ⟨13, #[.agg #[.pointer u13]], _, run_enter rfl (by simp only [List.map_toArray, List.map_cons, List.map_nil, e132]) (eval_func _ _) (enters_of Try.func13 (by kernel_rfl) rfl), tsize_any W _ qs (c.t13.nx hF.inv), ?_⟩
    rintro e W' ⟨rfl, hn2⟩; exact ⟨_, rfl, rfl, hn2, (hF.inv.trans hn2)⟩⟩
theorem sCd_11 (c : CCd ops a0 W0 B7 B12 B13 u7 u12 u13 key v14 v15 xs ps qs) : Stp Try.prog ops Q a0 (KCd W0 B7 B12 B13 u7 u12 u13 key v14 v15 xs ps qs) (ICd W0 B7 B12 B13 u7 u12 u13 key v14 v15 xs ps qs) 11 := stp_val (huCd c) (hCd_11 c) rfl (by rw [c.hz]; decide) fun l a W hF hn hd => ⟨hF.want (k := 6) (b := true) rfl (hCd_6 c) rfl (hd.at 6 (by rfl)) (fun v h => h), by
    have e131 : a.eval (.tmp 131) = .int .i64 (ps.length : Int) := by obtain ⟨v, e, p⟩ := hF.get (hCd_8 c) rfl (hd.at 8 (by rfl)); exact e.trans p
    have e133 : a.eval (.tmp 133) = .int .i64 (qs.length : Int) := by obtain ⟨v, e, p⟩ := hF.get (hCd_10 c) rfl (hd.at 10 (by rfl)); exact e.trans p
    have q := IntWalk.i64_in ((ps.length : Int) + (qs.length : Int)) (by have := c.psn; have := c.qsn; omega)
    refine ⟨.int .i64 ((ps.length : Int) + (qs.length : Int)), W, ?_, rfl, Nx.refl W, hF.inv⟩
    show (execOp a.eval _).run Try.prog W = _
    simp only [execOp, e131, e133]
    simp [go_sem, q]⟩
theorem sCd_12 (c : CCd ops a0 W0 B7 B12 B13 u7 u12 u13 key v14 v15 xs ps qs) : Stp Try.prog ops Q a0 (KCd W0 B7 B12 B13 u7 u12 u13 key v14 v15 xs ps qs) (ICd W0 B7 B12 B13 u7 u12 u13 key v14 v15 xs ps qs) 12 := stp_val (huCd c) (hCd_12 c) rfl (by rw [c.hz]; decide) fun l a W hF hn hd => ⟨hF.want (k := 6) (b := true) rfl (hCd_6 c) rfl (hd.at 6 (by rfl)) (fun v h => h), by
    have e7 : a.eval (.tmp 7) = .pointer (some ⟨B7, 0, none⟩) := (hF.old (oCd_7 c)).trans c.z7
    have m := c.b7.at0 hF.inv
    refine ⟨.agg #[.pointer u7], W, ?_, rfl, Nx.refl W, hF.inv⟩
    show (execOp a.eval _).run Try.prog W = _
    simp only [execOp, e7]
    simp [go_sem, m]⟩
theorem sCd_13 (c : CCd ops a0 W0 B7 B12 B13 u7 u12 u13 key v14 v15 xs ps qs) : Stp Try.prog ops Q a0 (KCd W0 B7 B12 B13 u7 u12 u13 key v14 v15 xs ps qs) (ICd W0 B7 B12 B13 u7 u12 u13 key v14 v15 xs ps qs) 13 := stp_call (huCd c) (hCd_13 c) rfl (by rw [c.hz]; decide) fun l a W hF hn hd => ⟨hF.want (k := 6) (b := true) rfl (hCd_6 c) rfl (hd.at 6 (by rfl)) (fun v h => h), by
    have e135 : a.eval (.tmp 135) = .agg #[.pointer u7] := by obtain ⟨v, e, p⟩ := hF.get (hCd_12 c) rfl (hd.at 12 (by rfl)); exact e.trans p
    refine ⟨13, #[.agg #[.pointer u7]], _, run_enter rfl (by simp only [List.map_toArray, List.map_cons, List.map_nil, e135]) (eval_func _ _) (enters_of Try.func13 (by kernel_rfl) rfl), tsize_any W _ xs (c.t7.nx hF.inv), ?_⟩
    rintro e W' ⟨rfl, hn2⟩; exact ⟨_, rfl, rfl, hn2, (hF.inv.trans hn2)⟩⟩
theorem sCd_14 (c : CCd ops a0 W0 B7 B12 B13 u7 u12 u13 key v14 v15 xs ps qs) : Stp Try.prog ops Q a0 (KCd W0 B7 B12 B13 u7 u12 u13 key v14 v15 xs ps qs) (ICd W0 B7 B12 B13 u7 u12 u13 key v14 v15 xs ps qs) 14 := stp_val (huCd c) (hCd_14 c) rfl (by rw [c.hz]; decide) fun l a W hF hn hd => ⟨hF.want (k := 6) (b := true) rfl (hCd_6 c) rfl (hd.at 6 (by rfl)) (fun v h => h), by
    have e134 : a.eval (.tmp 134) = .int .i64 ((ps.length : Int) + (qs.length : Int)) := by obtain ⟨v, e, p⟩ := hF.get (hCd_11 c) rfl (hd.at 11 (by rfl)); exact e.trans p
    have e136 : a.eval (.tmp 136) = .int .i64 (xs.length : Int) := by obtain ⟨v, e, p⟩ := hF.get (hCd_13 c) rfl (hd.at 13 (by rfl)); exact e.trans p
    have q := c.hs
    have q2 : (ps.length : Int) + (qs.length : Int) = (xs.length : Int) := by omega
    refine ⟨.bool true, W, ?_, rfl, Nx.refl W, hF.inv⟩
    show (execOp a.eval _).run Try.prog W = _
    simp only [execOp, e134, e136]
    simp [go_sem, q2]⟩
theorem sCd_15 (c : CCd ops a0 W0 B7 B12 B13 u7 u12 u13 key v14 v15 xs ps qs) : Stp Try.prog ops Q a0 (KCd W0 B7 B12 B13 u7 u12 u13 key v14 v15 xs ps qs) (ICd W0 B7 B12 B13 u7 u12 u13 key v14 v15 xs ps qs) 15 := stp_val (huCd c) (hCd_15 c) rfl (by rw [c.hz]; decide) fun l a W hF hn hd => ⟨want_none rfl, by
    have e129 : a.eval (.tmp 129) = .bool true := by obtain ⟨v, e, p⟩ := hF.get (hCd_6 c) rfl (hd.at 6 (by rfl)); exact e.trans p
    have e137 : a.eval (.tmp 137) = .bool true := by obtain ⟨v, e, p⟩ := hF.get (hCd_14 c) rfl (hd.at 14 (by rfl)); exact e.trans p
    refine ⟨.bool true, W, ?_, rfl, Nx.refl W, hF.inv⟩
    show (execOp a.eval _).run Try.prog W = _
    simp only [execOp, e129, e137]
    simp [go_sem]⟩
theorem sCd_16 (c : CCd ops a0 W0 B7 B12 B13 u7 u12 u13 key v14 v15 xs ps qs) : Stp Try.prog ops Q a0 (KCd W0 B7 B12 B13 u7 u12 u13 key v14 v15 xs ps qs) (ICd W0 B7 B12 B13 u7 u12 u13 key v14 v15 xs ps qs) 16 := stp_val (huCd c) (hCd_16 c) rfl (by rw [c.hz]; decide) fun l a W hF hn hd => ⟨want_none rfl, by
    have e138 : a.eval (.tmp 138) = .bool true := by obtain ⟨v, e, p⟩ := hF.get (hCd_15 c) rfl (hd.at 15 (by rfl)); exact e.trans p
    exact ⟨.bool true, W, by show Result.ok (Next.value (a.eval _)) W = _; rw [e138], rfl, Nx.refl W, hF.inv⟩⟩
theorem sCd_17 (c : CCd ops a0 W0 B7 B12 B13 u7 u12 u13 key v14 v15 xs ps qs) : Stp Try.prog ops Q a0 (KCd W0 B7 B12 B13 u7 u12 u13 key v14 v15 xs ps qs) (ICd W0 B7 B12 B13 u7 u12 u13 key v14 v15 xs ps qs) 17 := stp_val (huCd c) (hCd_17 c) rfl (by rw [c.hz]; decide) fun l a W hF hn hd => ⟨hF.want (k := 16) (b := true) rfl (hCd_16 c) rfl (hd.at 16 (by rfl)) (fun v h => h), by
    refine ⟨.slice (some ⟨W.heap.size, 0, none⟩) 0 0, W.alloc (.cells #[] 40), ?_, fun _ => row_new W _ hF.inv.size, (Nx.refl W).alloc _, hF.inv.alloc _⟩
    show (execOp a.eval _).run Try.prog W = _
    simp only [execOp]
    simp [go_sem]⟩
theorem sCd_18 (c : CCd ops a0 W0 B7 B12 B13 u7 u12 u13 key v14 v15 xs ps qs) : Stp Try.prog ops Q a0 (KCd W0 B7 B12 B13 u7 u12 u13 key v14 v15 xs ps qs) (ICd W0 B7 B12 B13 u7 u12 u13 key v14 v15 xs ps qs) 18 := stp_val (huCd c) (hCd_18 c) rfl (by rw [c.hz]; decide) fun l a W hF hn hd => ⟨hF.want (k := 16) (b := true) rfl (hCd_16 c) rfl (hd.at 16 (by rfl)) (fun v h => h), by
    have e14 : a.eval (.tmp 14) = v14 := (hF.old (oCd_14 c)).trans c.z14
    exact ⟨v14, W, by show Result.ok (Next.value (a.eval _)) W = _; rw [e14], rfl, Nx.refl W, hF.inv⟩⟩
theorem sCd_19 (c : CCd ops a0 W0 B7 B12 B13 u7 u12 u13 key v14 v15 xs ps qs) : Stp Try.prog ops Q a0 (KCd W0 B7 B12 B13 u7 u12 u13 key v14 v15 xs ps qs) (ICd W0 B7 B12 B13 u7 u12 u13 key v14 v15 xs ps qs) 19 := stp_turn (huCd c) (hCd_19 c) rfl (by rw [c.hz]; decide) fun l a W hF hn hd => ⟨hF.want (k := 16) (b := true) rfl (hCd_16 c) rfl (hd.at 16 (by rfl)) (fun v h => h), by
    obtain ⟨v140, e140, p140⟩ := hF.get (hCd_17 c) rfl (hd.at 17 (by rfl))
    have e141 : a.eval (.tmp 141) = v14 := by obtain ⟨v, e, p⟩ := hF.get (hCd_18 c) rfl (hd.at 18 (by rfl)); exact e.trans p
    obtain ⟨v', W', h1, hrow, hg⟩ := run_appW (o := { dst := some 142, op := .call { callee := .builtin .append, args := #[.tmp 140, .tmp 141], argTypes := #[33, 33] }, type := 33, pos := "law.go:183", after := #[{ on := 17, ground := .data }, { on := 18, ground := .data }, { on := 16, ground := .chain }, { on := 16, ground := .guard }], guard := some (16, true) }) (.tmp 140) (.tmp 141) rfl W0.heap.size _ _ _ _ e140 e141 (p140 hn) (c.r14.nx hF.inv) (by rw [List.length_map]; have := c.psn; simp; omega) hF.inv.size
    exact ⟨v', W', h1, fun _ => by simpa using hrow, fun j v hne hl => match j, hne, hl with | 0, hne, hl => fun h => h | 1, hne, hl => fun h => h | 2, hne, hl => fun h => h | 3, hne, hl => fun h => h | 4, hne, hl => fun h => h | 5, hne, hl => fun h => h | 6, hne, hl => fun h => h | 7, hne, hl => fun h => h | 8, hne, hl => fun h => h | 9, hne, hl => fun h => h | 10, hne, hl => fun h => h | 11, hne, hl => fun h => h | 12, hne, hl => fun h => h | 13, hne, hl => fun h => h | 14, hne, hl => fun h => h | 15, hne, hl => fun h => h | 16, hne, hl => fun h => h | 17, hne, hl => fun h => fun e => absurd e (by rw [getD_set_self (hF.lt (hCd_19 c))]; decide) | 18, hne, hl => fun h => h | 19, hne, hl => fun h => absurd rfl hne | 20, hne, hl => fun h => h | 21, hne, hl => fun h => absurd hl (by rw [(hF.off hn (hCd_21 c) (by rfl))]; decide) | 22, hne, hl => fun h => h | 23, hne, hl => fun h => h | 24, hne, hl => fun h => h | 25, hne, hl => fun h => absurd hl (by rw [(hF.off (hF.off (hF.off hn (hCd_21 c) (by rfl)) (hCd_24 c) (by rfl)) (hCd_25 c) (by rfl))]; decide) | 26, hne, hl => fun h => h | 27, hne, hl => fun h => h | 28, hne, hl => fun h => h | (k + 29), _, _ => fun _ => trivial, Nx.grown hF.inv (p140 hn) hg⟩⟩
theorem sCd_20 (c : CCd ops a0 W0 B7 B12 B13 u7 u12 u13 key v14 v15 xs ps qs) : Stp Try.prog ops Q a0 (KCd W0 B7 B12 B13 u7 u12 u13 key v14 v15 xs ps qs) (ICd W0 B7 B12 B13 u7 u12 u13 key v14 v15 xs ps qs) 20 := stp_val (huCd c) (hCd_20 c) rfl (by rw [c.hz]; decide) fun l a W hF hn hd => ⟨hF.want (k := 16) (b := true) rfl (hCd_16 c) rfl (hd.at 16 (by rfl)) (fun v h => h), by
    have e15 : a.eval (.tmp 15) = v15 := (hF.old (oCd_15 c)).trans c.z15
    exact ⟨v15, W, by show Result.ok (Next.value (a.eval _)) W = _; rw [e15], rfl, Nx.refl W, hF.inv⟩⟩
theorem sCd_21 (c : CCd ops a0 W0 B7 B12 B13 u7 u12 u13 key v14 v15 xs ps qs) : Stp Try.prog ops Q a0 (KCd W0 B7 B12 B13 u7 u12 u13 key v14 v15 xs ps qs) (ICd W0 B7 B12 B13 u7 u12 u13 key v14 v15 xs ps qs) 21 := stp_turn (huCd c) (hCd_21 c) rfl (by rw [c.hz]; decide) fun l a W hF hn hd => ⟨hF.want (k := 16) (b := true) rfl (hCd_16 c) rfl (hd.at 16 (by rfl)) (fun v h => h), by
    obtain ⟨v142, e142, p142⟩ := hF.get (hCd_19 c) rfl (hd.at 19 (by rfl))
    have e143 : a.eval (.tmp 143) = v15 := by obtain ⟨v, e, p⟩ := hF.get (hCd_20 c) rfl (hd.at 20 (by rfl)); exact e.trans p
    obtain ⟨v', W', h1, hrow, hg⟩ := run_appW (o := { dst := some 144, op := .call { callee := .builtin .append, args := #[.tmp 142, .tmp 143], argTypes := #[33, 33] }, type := 33, pos := "law.go:183", after := #[{ on := 19, ground := .data }, { on := 20, ground := .data }, { on := 19, ground := .chain }, { on := 16, ground := .guard }], guard := some (16, true) }) (.tmp 142) (.tmp 143) rfl W0.heap.size _ _ _ _ e142 e143 (p142 hn) (c.r15.nx hF.inv) (by rw [List.length_map, List.length_map]; have := c.psn; have := c.qsn; omega) hF.inv.size
    exact ⟨v', W', h1, hrow.rd, fun j v hne hl => match j, hne, hl with | 0, hne, hl => fun h => h | 1, hne, hl => fun h => h | 2, hne, hl => fun h => h | 3, hne, hl => fun h => h | 4, hne, hl => fun h => h | 5, hne, hl => fun h => h | 6, hne, hl => fun h => h | 7, hne, hl => fun h => h | 8, hne, hl => fun h => h | 9, hne, hl => fun h => h | 10, hne, hl => fun h => h | 11, hne, hl => fun h => h | 12, hne, hl => fun h => h | 13, hne, hl => fun h => h | 14, hne, hl => fun h => h | 15, hne, hl => fun h => h | 16, hne, hl => fun h => h | 17, hne, hl => fun h => fun e => absurd (getD_set_was e) (by rw [(hd.at 19 (by rfl))]; decide) | 18, hne, hl => fun h => h | 19, hne, hl => fun h => fun e => absurd e (by rw [getD_set_self (hF.lt (hCd_21 c))]; decide) | 20, hne, hl => fun h => h | 21, hne, hl => fun h => absurd rfl hne | 22, hne, hl => fun h => h | 23, hne, hl => fun h => h | 24, hne, hl => fun h => h | 25, hne, hl => fun h => absurd hl (by rw [(hF.off (hF.off hn (hCd_24 c) (by rfl)) (hCd_25 c) (by rfl))]; decide) | 26, hne, hl => fun h => h | 27, hne, hl => fun h => h | 28, hne, hl => fun h => h | (k + 29), _, _ => fun _ => trivial, Nx.grown hF.inv (p142 hn) hg⟩⟩
theorem sCd_22 (c : CCd ops a0 W0 B7 B12 B13 u7 u12 u13 key v14 v15 xs ps qs) : Stp Try.prog ops Q a0 (KCd W0 B7 B12 B13 u7 u12 u13 key v14 v15 xs ps qs) (ICd W0 B7 B12 B13 u7 u12 u13 key v14 v15 xs ps qs) 22 := stp_val (huCd c) (hCd_22 c) rfl (by rw [c.hz]; decide) fun l a W hF hn hd => ⟨hF.want (k := 16) (b := true) rfl (hCd_16 c) rfl (hd.at 16 (by rfl)) (fun v h => h), by
    have e7 : a.eval (.tmp 7) = .pointer (some ⟨B7, 0, none⟩) := (hF.old (oCd_7 c)).trans c.z7
    have m := c.b7.at0 hF.inv
    refine ⟨.agg #[.pointer u7], W, ?_, rfl, Nx.refl W, hF.inv⟩
    show (execOp a.eval _).run Try.prog W = _
    simp only [execOp, e7]
    simp [go_sem, m]⟩
theorem sCd_23 (c : CCd ops a0 W0 B7 B12 B13 u7 u12 u13 key v14 v15 xs ps qs) : Stp Try.prog ops Q a0 (KCd W0 B7 B12 B13 u7 u12 u13 key v14 v15 xs ps qs) (ICd W0 B7 B12 B13 u7 u12 u13 key v14 v15 xs ps qs) 23 := stp_val (huCd c) (hCd_23 c) rfl (by rw [c.hz]; decide) fun l a W hF hn hd => ⟨hF.want (k := 16) (b := true) rfl (hCd_16 c) rfl (hd.at 16 (by rfl)) (fun v h => h), by
    have e7 : a.eval (.tmp 7) = .pointer (some ⟨B7, 0, none⟩) := (hF.old (oCd_7 c)).trans c.z7
    have m := c.b7.at0 hF.inv
    refine ⟨.agg #[.pointer u7], W, ?_, rfl, Nx.refl W, hF.inv⟩
    show (execOp a.eval _).run Try.prog W = _
    simp only [execOp, e7]
    simp [go_sem, m]⟩
theorem sCd_24 (c : CCd ops a0 W0 B7 B12 B13 u7 u12 u13 key v14 v15 xs ps qs) : Stp Try.prog ops Q a0 (KCd W0 B7 B12 B13 u7 u12 u13 key v14 v15 xs ps qs) (ICd W0 B7 B12 B13 u7 u12 u13 key v14 v15 xs ps qs) 24 := stp_call (huCd c) (hCd_24 c) rfl (by rw [c.hz]; decide) fun l a W hF hn hd => ⟨hF.want (k := 16) (b := true) rfl (hCd_16 c) rfl (hd.at 16 (by rfl)) (fun v h => h), by
    have e146 : a.eval (.tmp 146) = .agg #[.pointer u7] := by obtain ⟨v, e, p⟩ := hF.get (hCd_23 c) rfl (hd.at 23 (by rfl)); exact e.trans p
    refine ⟨13, #[.agg #[.pointer u7]], _, run_enter rfl (by simp only [List.map_toArray, List.map_cons, List.map_nil, e146]) (eval_func _ _) (enters_of Try.func13 (by kernel_rfl) rfl), tsize_any W _ xs (c.t7.nx hF.inv), ?_⟩
    rintro e W' ⟨rfl, hn2⟩; exact ⟨_, rfl, rfl, hn2, (hF.inv.trans hn2)⟩⟩
theorem sCd_25 (c : CCd ops a0 W0 B7 B12 B13 u7 u12 u13 key v14 v15 xs ps qs) : Stp Try.prog ops Q a0 (KCd W0 B7 B12 B13 u7 u12 u13 key v14 v15 xs ps qs) (ICd W0 B7 B12 B13 u7 u12 u13 key v14 v15 xs ps qs) 25 := stp_call (huCd c) (hCd_25 c) rfl (by rw [c.hz]; decide) fun l a W hF hn hd => ⟨hF.want (k := 16) (b := true) rfl (hCd_16 c) rfl (hd.at 16 (by rfl)) (fun v h => h), by
    have e145 : a.eval (.tmp 145) = .agg #[.pointer u7] := by obtain ⟨v, e, p⟩ := hF.get (hCd_22 c) rfl (hd.at 22 (by rfl)); exact e.trans p
    have e147 : a.eval (.tmp 147) = .int .i64 (xs.length : Int) := by obtain ⟨v, e, p⟩ := hF.get (hCd_24 c) rfl (hd.at 24 (by rfl)); exact e.trans p
    refine ⟨23, #[.agg #[.pointer u7], .string ⟨#[]⟩, .string ⟨#[]⟩, .int .i64 (xs.length : Int)], _, run_enter rfl (by simp only [List.map_toArray, List.map_cons, List.map_nil, e145, e147, eval_const]) (eval_func _ _) (enters_of Try.func23 (by kernel_rfl) rfl), trange_any W _ xs [] [] xs.length (c.t7.nx hF.inv) c.xsn (by omega) (by have := c.xsn; omega), ?_⟩
    rintro e W' ⟨r, rfl, hrow, hn2⟩; rw [range_all] at hrow; exact ⟨_, rfl, hrow.rd, hn2, (hF.inv.trans hn2)⟩⟩
theorem sCd_26 (c : CCd ops a0 W0 B7 B12 B13 u7 u12 u13 key v14 v15 xs ps qs) : Stp Try.prog ops Q a0 (KCd W0 B7 B12 B13 u7 u12 u13 key v14 v15 xs ps qs) (ICd W0 B7 B12 B13 u7 u12 u13 key v14 v15 xs ps qs) 26 := stp_call (huCd c) (hCd_26 c) rfl (by rw [c.hz]; decide) fun l a W hF hn hd => ⟨hF.want (k := 16) (b := true) rfl (hCd_16 c) rfl (hd.at 16 (by rfl)) (fun v h => h), by
    obtain ⟨v144, e144, p144⟩ := hF.get (hCd_21 c) rfl (hd.at 21 (by rfl))
    have p144 : Rd W v144 (ps.map prOf ++ qs.map prOf) := p144
    obtain ⟨v148, e148, p148⟩ := hF.get (hCd_25 c) rfl (hd.at 25 (by rfl))
    have p148 : Rd W v148 (xs.map prOf) := p148
    refine ⟨22, #[v144, v148], _, run_enter rfl (by simp only [List.map_toArray, List.map_cons, List.map_nil, e144, e148]) (eval_func _ _) (enters_of Try.func22 (by kernel_rfl) rfl), pairs_any W _ _ _ _ p144 p148 (by rw [List.length_append, List.length_map, List.length_map]; have := c.psn; have := c.qsn; omega), ?_⟩
    rintro e W' ⟨rfl, hn2⟩; exact ⟨_, rfl, by rw [← List.map_append, c.hc, decide_eq_true rfl]; rfl, hn2, (hF.inv.trans hn2)⟩⟩
theorem sCd_27 (c : CCd ops a0 W0 B7 B12 B13 u7 u12 u13 key v14 v15 xs ps qs) : Stp Try.prog ops Q a0 (KCd W0 B7 B12 B13 u7 u12 u13 key v14 v15 xs ps qs) (ICd W0 B7 B12 B13 u7 u12 u13 key v14 v15 xs ps qs) 27 := stp_val (huCd c) (hCd_27 c) rfl (by rw [c.hz]; decide) fun l a W hF hn hd => ⟨want_none rfl, by
    have e139 : a.eval (.tmp 139) = .bool true := by obtain ⟨v, e, p⟩ := hF.get (hCd_16 c) rfl (hd.at 16 (by rfl)); exact e.trans p
    have e149 : a.eval (.tmp 149) = .bool true := by obtain ⟨v, e, p⟩ := hF.get (hCd_26 c) rfl (hd.at 26 (by rfl)); exact e.trans p
    refine ⟨.bool true, W, ?_, rfl, Nx.refl W, hF.inv⟩
    show (execOp a.eval _).run Try.prog W = _
    simp only [execOp, e139, e149]
    simp [go_sem]⟩
theorem sCd_28 (c : CCd ops a0 W0 B7 B12 B13 u7 u12 u13 key v14 v15 xs ps qs) : Stp Try.prog ops Q a0 (KCd W0 B7 B12 B13 u7 u12 u13 key v14 v15 xs ps qs) (ICd W0 B7 B12 B13 u7 u12 u13 key v14 v15 xs ps qs) 28 := stp_val (huCd c) (hCd_28 c) rfl (by rw [c.hz]; decide) fun l a W hF hn hd => ⟨want_none rfl, by
    have e150 : a.eval (.tmp 150) = .bool true := by obtain ⟨v, e, p⟩ := hF.get (hCd_27 c) rfl (hd.at 27 (by rfl)); exact e.trans p
    exact ⟨.bool true, W, by show Result.ok (Next.value (a.eval _)) W = _; rw [e150], rfl, Nx.refl W, hF.inv⟩⟩
theorem rgCd (c : CCd ops a0 W0 B7 B12 B13 u7 u12 u13 key v14 v15 xs ps qs) {id : Nat} (fin : ∀ (x123 x124 x125 x126 x127 x128 x129 x130 x131 x132 x133 x134 x135 x136 x137 x138 x139 x140 x141 x142 x143 x144 x145 x146 x147 x148 x149 x150 : Value) (W : World), Nx W0 W → Q .normal { tmps := (((((((((((((((((((((((((((((a0.tmps.setIfInBounds 123 x123).setIfInBounds 124 x124).setIfInBounds 125 x125).setIfInBounds 126 x126).setIfInBounds 127 x127).setIfInBounds 128 x128).setIfInBounds 129 x129).setIfInBounds 130 x130).setIfInBounds 131 x131).setIfInBounds 132 x132).setIfInBounds 133 x133).setIfInBounds 134 x134).setIfInBounds 135 x135).setIfInBounds 136 x136).setIfInBounds 137 x137).setIfInBounds 138 x138).setIfInBounds 139 x139).setIfInBounds 140 x140).setIfInBounds 141 x141).setIfInBounds 142 x142).setIfInBounds 143 x143).setIfInBounds 144 x144).setIfInBounds 145 x145).setIfInBounds 146 x146).setIfInBounds 147 x147).setIfInBounds 148 x148).setIfInBounds 149 x149).setIfInBounds 150 x150).setIfInBounds 6 (.bool true)), defers := a0.defers } W) : (Code.region id ops true).wp Try.prog Q a0 W0 := by
  refine flows (K := (KCd W0 B7 B12 B13 u7 u12 u13 key v14 v15 xs ps qs)) (Inv := (ICd W0 B7 B12 B13 u7 u12 u13 key v14 v15 xs ps qs)) (by kernel_rfl) (hoCd c) (hnCd c) (Nx.refl W0).drew ⟨⟨⟨⟨⟨⟨⟨⟨⟨⟨⟨⟨⟨⟨⟨⟨⟨⟨⟨⟨⟨⟨⟨⟨⟨⟨⟨⟨⟨trivial, sCd_0 c⟩, sCd_1 c⟩, sCd_2 c⟩, sCd_3 c⟩, sCd_4 c⟩, sCd_5 c⟩, sCd_6 c⟩, sCd_7 c⟩, sCd_8 c⟩, sCd_9 c⟩, sCd_10 c⟩, sCd_11 c⟩, sCd_12 c⟩, sCd_13 c⟩, sCd_14 c⟩, sCd_15 c⟩, sCd_16 c⟩, sCd_17 c⟩, sCd_18 c⟩, sCd_19 c⟩, sCd_20 c⟩, sCd_21 c⟩, sCd_22 c⟩, sCd_23 c⟩, sCd_24 c⟩, sCd_25 c⟩, sCd_26 c⟩, sCd_27 c⟩, sCd_28 c⟩ fun l a W hF hl => ?_
  have f := hF.form
  rw [hdCd c] at f
  simp only [List.foldl] at f
  have q6 : a.tmps.getD 6 undef = .bool true := by obtain ⟨v, e, p⟩ := hF.get (hCd_28 c) rfl (hl 28 (by decide)); exact e.trans p
  rw [q6] at f
  rw [f]
  exact fin _ _ _ _ _ _ _ _ _ _ _ _ _ _ _ _ _ _ _ _ _ _ _ _ _ _ _ _ W  hF.inv
theorem rgCdL {t0_ t1_ t2_ t3_ t4_ t5_ t6_ t7_ t8_ t9_ t10_ t11_ t12_ t13_ t14_ t15_ t16_ t17_ t18_ t19_ t20_ t21_ t22_ t23_ t24_ t25_ t26_ t27_ t28_ t29_ t30_ t31_ t32_ t33_ t34_ t35_ t36_ t37_ t38_ t39_ t40_ t41_ t42_ t43_ t44_ t45_ t46_ t47_ t48_ t49_ t50_ t51_ t52_ t53_ t54_ t55_ t56_ t57_ t58_ t59_ t60_ t61_ t62_ t63_ t64_ t65_ t66_ t67_ t68_ t69_ t70_ t71_ t72_ t73_ t74_ t75_ t76_ t77_ t78_ t79_ t80_ t81_ t82_ t83_ t84_ t85_ t86_ t87_ t88_ t89_ t90_ t91_ t92_ t93_ t94_ t95_ t96_ t97_ t98_ t99_ t100_ t101_ t102_ t103_ t104_ t105_ t106_ t107_ t108_ t109_ t110_ t111_ t112_ t113_ t114_ t115_ t116_ t117_ t118_ t119_ t120_ t121_ t122_ t123_ t124_ t125_ t126_ t127_ t128_ t129_ t130_ t131_ t132_ t133_ t134_ t135_ t136_ t137_ t138_ t139_ t140_ t141_ t142_ t143_ t144_ t145_ t146_ t147_ t148_ t149_ t150_ : Value} {d_ : List Deferred} (c : CCd ops { tmps := #[t0_, t1_, t2_, t3_, t4_, t5_, t6_, t7_, t8_, t9_, t10_, t11_, t12_, t13_, t14_, t15_, t16_, t17_, t18_, t19_, t20_, t21_, t22_, t23_, t24_, t25_, t26_, t27_, t28_, t29_, t30_, t31_, t32_, t33_, t34_, t35_, t36_, t37_, t38_, t39_, t40_, t41_, t42_, t43_, t44_, t45_, t46_, t47_, t48_, t49_, t50_, t51_, t52_, t53_, t54_, t55_, t56_, t57_, t58_, t59_, t60_, t61_, t62_, t63_, t64_, t65_, t66_, t67_, t68_, t69_, t70_, t71_, t72_, t73_, t74_, t75_, t76_, t77_, t78_, t79_, t80_, t81_, t82_, t83_, t84_, t85_, t86_, t87_, t88_, t89_, t90_, t91_, t92_, t93_, t94_, t95_, t96_, t97_, t98_, t99_, t100_, t101_, t102_, t103_, t104_, t105_, t106_, t107_, t108_, t109_, t110_, t111_, t112_, t113_, t114_, t115_, t116_, t117_, t118_, t119_, t120_, t121_, t122_, t123_, t124_, t125_, t126_, t127_, t128_, t129_, t130_, t131_, t132_, t133_, t134_, t135_, t136_, t137_, t138_, t139_, t140_, t141_, t142_, t143_, t144_, t145_, t146_, t147_, t148_, t149_, t150_], defers := d_ } W0 B7 B12 B13 u7 u12 u13 key v14 v15 xs ps qs) {id : Nat} (fin : ∀ (x123 x124 x125 x126 x127 x128 x129 x130 x131 x132 x133 x134 x135 x136 x137 x138 x139 x140 x141 x142 x143 x144 x145 x146 x147 x148 x149 x150 : Value) (W : World), Nx W0 W → Q .normal { tmps := #[t0_, t1_, t2_, t3_, t4_, t5_, (.bool true), t7_, t8_, t9_, t10_, t11_, t12_, t13_, t14_, t15_, t16_, t17_, t18_, t19_, t20_, t21_, t22_, t23_, t24_, t25_, t26_, t27_, t28_, t29_, t30_, t31_, t32_, t33_, t34_, t35_, t36_, t37_, t38_, t39_, t40_, t41_, t42_, t43_, t44_, t45_, t46_, t47_, t48_, t49_, t50_, t51_, t52_, t53_, t54_, t55_, t56_, t57_, t58_, t59_, t60_, t61_, t62_, t63_, t64_, t65_, t66_, t67_, t68_, t69_, t70_, t71_, t72_, t73_, t74_, t75_, t76_, t77_, t78_, t79_, t80_, t81_, t82_, t83_, t84_, t85_, t86_, t87_, t88_, t89_, t90_, t91_, t92_, t93_, t94_, t95_, t96_, t97_, t98_, t99_, t100_, t101_, t102_, t103_, t104_, t105_, t106_, t107_, t108_, t109_, t110_, t111_, t112_, t113_, t114_, t115_, t116_, t117_, t118_, t119_, t120_, t121_, t122_, x123, x124, x125, x126, x127, x128, x129, x130, x131, x132, x133, x134, x135, x136, x137, x138, x139, x140, x141, x142, x143, x144, x145, x146, x147, x148, x149, x150], defers := d_ } W) : (Code.region id ops true).wp Try.prog Q { tmps := #[t0_, t1_, t2_, t3_, t4_, t5_, t6_, t7_, t8_, t9_, t10_, t11_, t12_, t13_, t14_, t15_, t16_, t17_, t18_, t19_, t20_, t21_, t22_, t23_, t24_, t25_, t26_, t27_, t28_, t29_, t30_, t31_, t32_, t33_, t34_, t35_, t36_, t37_, t38_, t39_, t40_, t41_, t42_, t43_, t44_, t45_, t46_, t47_, t48_, t49_, t50_, t51_, t52_, t53_, t54_, t55_, t56_, t57_, t58_, t59_, t60_, t61_, t62_, t63_, t64_, t65_, t66_, t67_, t68_, t69_, t70_, t71_, t72_, t73_, t74_, t75_, t76_, t77_, t78_, t79_, t80_, t81_, t82_, t83_, t84_, t85_, t86_, t87_, t88_, t89_, t90_, t91_, t92_, t93_, t94_, t95_, t96_, t97_, t98_, t99_, t100_, t101_, t102_, t103_, t104_, t105_, t106_, t107_, t108_, t109_, t110_, t111_, t112_, t113_, t114_, t115_, t116_, t117_, t118_, t119_, t120_, t121_, t122_, t123_, t124_, t125_, t126_, t127_, t128_, t129_, t130_, t131_, t132_, t133_, t134_, t135_, t136_, t137_, t138_, t139_, t140_, t141_, t142_, t143_, t144_, t145_, t146_, t147_, t148_, t149_, t150_], defers := d_ } W0 := by
  refine rgCd c ?_
  intro x123 x124 x125 x126 x127 x128 x129 x130 x131 x132 x133 x134 x135 x136 x137 x138 x139 x140 x141 x142 x143 x144 x145 x146 x147 x148 x149 x150 W
  have e : (((((((((((((((((((((((((((((#[t0_, t1_, t2_, t3_, t4_, t5_, t6_, t7_, t8_, t9_, t10_, t11_, t12_, t13_, t14_, t15_, t16_, t17_, t18_, t19_, t20_, t21_, t22_, t23_, t24_, t25_, t26_, t27_, t28_, t29_, t30_, t31_, t32_, t33_, t34_, t35_, t36_, t37_, t38_, t39_, t40_, t41_, t42_, t43_, t44_, t45_, t46_, t47_, t48_, t49_, t50_, t51_, t52_, t53_, t54_, t55_, t56_, t57_, t58_, t59_, t60_, t61_, t62_, t63_, t64_, t65_, t66_, t67_, t68_, t69_, t70_, t71_, t72_, t73_, t74_, t75_, t76_, t77_, t78_, t79_, t80_, t81_, t82_, t83_, t84_, t85_, t86_, t87_, t88_, t89_, t90_, t91_, t92_, t93_, t94_, t95_, t96_, t97_, t98_, t99_, t100_, t101_, t102_, t103_, t104_, t105_, t106_, t107_, t108_, t109_, t110_, t111_, t112_, t113_, t114_, t115_, t116_, t117_, t118_, t119_, t120_, t121_, t122_, t123_, t124_, t125_, t126_, t127_, t128_, t129_, t130_, t131_, t132_, t133_, t134_, t135_, t136_, t137_, t138_, t139_, t140_, t141_, t142_, t143_, t144_, t145_, t146_, t147_, t148_, t149_, t150_].setIfInBounds 123 x123).setIfInBounds 124 x124).setIfInBounds 125 x125).setIfInBounds 126 x126).setIfInBounds 127 x127).setIfInBounds 128 x128).setIfInBounds 129 x129).setIfInBounds 130 x130).setIfInBounds 131 x131).setIfInBounds 132 x132).setIfInBounds 133 x133).setIfInBounds 134 x134).setIfInBounds 135 x135).setIfInBounds 136 x136).setIfInBounds 137 x137).setIfInBounds 138 x138).setIfInBounds 139 x139).setIfInBounds 140 x140).setIfInBounds 141 x141).setIfInBounds 142 x142).setIfInBounds 143 x143).setIfInBounds 144 x144).setIfInBounds 145 x145).setIfInBounds 146 x146).setIfInBounds 147 x147).setIfInBounds 148 x148).setIfInBounds 149 x149).setIfInBounds 150 x150).setIfInBounds 6 (.bool true)) = #[t0_, t1_, t2_, t3_, t4_, t5_, (.bool true), t7_, t8_, t9_, t10_, t11_, t12_, t13_, t14_, t15_, t16_, t17_, t18_, t19_, t20_, t21_, t22_, t23_, t24_, t25_, t26_, t27_, t28_, t29_, t30_, t31_, t32_, t33_, t34_, t35_, t36_, t37_, t38_, t39_, t40_, t41_, t42_, t43_, t44_, t45_, t46_, t47_, t48_, t49_, t50_, t51_, t52_, t53_, t54_, t55_, t56_, t57_, t58_, t59_, t60_, t61_, t62_, t63_, t64_, t65_, t66_, t67_, t68_, t69_, t70_, t71_, t72_, t73_, t74_, t75_, t76_, t77_, t78_, t79_, t80_, t81_, t82_, t83_, t84_, t85_, t86_, t87_, t88_, t89_, t90_, t91_, t92_, t93_, t94_, t95_, t96_, t97_, t98_, t99_, t100_, t101_, t102_, t103_, t104_, t105_, t106_, t107_, t108_, t109_, t110_, t111_, t112_, t113_, t114_, t115_, t116_, t117_, t118_, t119_, t120_, t121_, t122_, x123, x124, x125, x126, x127, x128, x129, x130, x131, x132, x133, x134, x135, x136, x137, x138, x139, x140, x141, x142, x143, x144, x145, x146, x147, x148, x149, x150] := by kernel_rfl
  have f := fin x123 x124 x125 x126 x127 x128 x129 x130 x131 x132 x133 x134 x135 x136 x137 x138 x139 x140 x141 x142 x143 x144 x145 x146 x147 x148 x149 x150 W
  rw [← e] at f
  exact f
end
end Go.Proofs.Ytekcphpeaoaaaaa

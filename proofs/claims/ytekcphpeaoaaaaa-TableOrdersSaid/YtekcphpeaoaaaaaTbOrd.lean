/- Package table: TableOrders, its regions that draw their order. Made by wip/tools/rg_ord.py. -/
import Derived.Test.YtekcphpeaoaaaaaTbRg
namespace Go.Proofs.Ytekcphpeaoaaaaa
open Go.RowKit Go.Shelf
set_option linter.unusedVariables false
set_option maxRecDepth 100000
theorem range_from (key : Str) (xs : List KV) : range key [] (xs.length : Nat) xs = xs.drop (place key xs) := by
  unfold range
  simp only [List.isEmpty_nil, Bool.true_or]
  rw [takeWhile_true]
  simp only [Int.toNat_natCast]
  rw [List.take_of_length_le (by rw [List.length_drop]; omega)]
theorem range_more (xs : List KV) : range [] [] ((xs.length : Int) + 1) xs = xs := by
  unfold range
  rw [place_empty]
  simp only [List.drop_zero, List.isEmpty_nil, Bool.true_or]
  rw [takeWhile_true, List.take_of_length_le (by omega)]
theorem place_at {xs : List KV} (hs : Srt xs) (i : Nat) (hi : i < xs.length) : place xs[i].1 xs = i := by
  have h1 : xs = xs.take i ++ xs[i] :: xs.drop (i + 1) := by rw [← List.drop_eq_getElem_cons hi, List.take_append_drop]
  have hs2 := hs
  rw [h1] at hs2
  obtain ⟨_, _, h3, _⟩ := srt_mid.1 hs2
  have h4 := place_mid (k := xs[i].1) hs2
  rw [if_neg (by rw [lt_irrefl]; decide), place_full h3, List.length_take] at h4
  rw [← h1] at h4
  omega
section
variable {ops : Array Oper} {a0 : Act} {W0 : World} {Q : Exit → Act → World → Prop} {B5 : Nat} {u5 : Option Addr} {xs : List KV}
structure COa (ops : Array Oper) (a0 : Act) (W0 : World) (B5 : Nat) (u5 : Option Addr) (xs : List KV) : Prop where
  hops : rops Try.f6 6 = ops
  hz : a0.tmps.size = 155
  z5 : a0.eval (.tmp 5) = .pointer (some ⟨B5, 0, none⟩)
  b5 : BlkIs W0 B5 24 #[.pointer u5]
  t5 : Tb W0 (.agg #[.pointer u5]) xs
  xsn : xs.length ≤ 100000000
def KOa (W0 : World) (B5 : Nat) (u5 : Option Addr) (xs : List KV) : List Kd := [Kd.eq (.agg #[.pointer u5]), Kd.eq (.agg #[.pointer u5]), Kd.eq (.int .i64 (xs.length : Int)), Kd.eq (.int .i64 ((xs.length : Int) + 1)), Kd.of (fun v W => RdP W v (xs.map prOf)) RdP.nx, Kd.of (fun v W => RdP W v (xs.map prOf)) RdP.nx]
/-- What is kept. -/
abbrev IOa (W0 : World) (B5 : Nat) (u5 : Option Addr) (xs : List KV) : Array Bool → World → Prop := (fun _ W => Nx W0 W)
theorem hOa_0 (c : COa ops a0 W0 B5 u5 xs) : ops[0]? = some { dst := some 31, op := .load 24 (.tmp 5), type := 24, pos := "law.go:116", after := #[], guard := none } := by rw [← c.hops]; rfl
theorem hOa_1 (c : COa ops a0 W0 B5 u5 xs) : ops[1]? = some { dst := some 32, op := .load 24 (.tmp 5), type := 24, pos := "law.go:116", after := #[], guard := none } := by rw [← c.hops]; rfl
theorem hOa_2 (c : COa ops a0 W0 B5 u5 xs) : ops[2]? = some { dst := some 33, op := .call { callee := .value (.func 13), args := #[.tmp 32], argTypes := #[24] }, type := 3, pos := "law.go:116", after := #[{ on := 1, ground := .data }], guard := none } := by rw [← c.hops]; rfl
theorem hOa_3 (c : COa ops a0 W0 B5 u5 xs) : ops[3]? = some { dst := some 34, op := .binOp .add 3 (.tmp 33) (.const (.int .i64 1)) 3, type := 3, pos := "law.go:116", after := #[{ on := 2, ground := .data }], guard := none } := by rw [← c.hops]; rfl
theorem hOa_4 (c : COa ops a0 W0 B5 u5 xs) : ops[4]? = some { dst := some 35, op := .call { callee := .value (.func 23), args := #[.tmp 31, .const (.string { data := #[] }), .const (.string { data := #[] }), .tmp 34], argTypes := #[24, 9, 9, 3] }, type := 33, pos := "law.go:116", after := #[{ on := 0, ground := .data }, { on := 3, ground := .data }, { on := 2, ground := .chain }], guard := none } := by rw [← c.hops]; rfl
theorem hOa_5 (c : COa ops a0 W0 B5 u5 xs) : ops[5]? = some { dst := some 7, op := .assign (.tmp 35), type := 33, pos := "law.go:116", after := #[{ on := 4, ground := .data }, { on := 4, ground := .chain }, { on := 0, ground := .phase }, { on := 1, ground := .phase }, { on := 2, ground := .phase }, { on := 3, ground := .phase }, { on := 4, ground := .phase }], guard := none } := by rw [← c.hops]; rfl
theorem huOa (c : COa ops a0 W0 B5 u5 xs) : dstB ops = true := by rw [← c.hops]; kernel_rfl
theorem hoOa (c : COa ops a0 W0 B5 u5 xs) : ordB ops = true := by rw [← c.hops]; kernel_rfl
theorem hnOa (c : COa ops a0 W0 B5 u5 xs) : ops.size = 6 := by rw [← c.hops]; rfl
theorem hdOa (c : COa ops a0 W0 B5 u5 xs) : dsts ops = [31, 32, 33, 34, 35, 7] := by rw [← c.hops]; rfl
theorem oOa_5 (c : COa ops a0 W0 B5 u5 xs) : oldB ops 5 = true := by rw [← c.hops]; kernel_rfl
theorem sOa_0 (c : COa ops a0 W0 B5 u5 xs) : Stp Try.prog ops Q a0 (KOa W0 B5 u5 xs) (IOa W0 B5 u5 xs) 0 := stp_val (huOa c) (hOa_0 c) rfl (by rw [c.hz]; decide) fun l a W hF hn hd => ⟨want_none rfl, by
    have e5 : a.eval (.tmp 5) = .pointer (some ⟨B5, 0, none⟩) := (hF.old (oOa_5 c)).trans c.z5
    have m := c.b5.at0 hF.inv
    refine ⟨.agg #[.pointer u5], W, ?_, rfl, Nx.refl W, hF.inv⟩
    show (execOp a.eval _).run Try.prog W = _
    simp only [execOp, e5]
    simp [go_sem, m]⟩
theorem sOa_1 (c : COa ops a0 W0 B5 u5 xs) : Stp Try.prog ops Q a0 (KOa W0 B5 u5 xs) (IOa W0 B5 u5 xs) 1 := stp_val (huOa c) (hOa_1 c) rfl (by rw [c.hz]; decide) fun l a W hF hn hd => ⟨want_none rfl, by
    have e5 : a.eval (.tmp 5) = .pointer (some ⟨B5, 0, none⟩) := (hF.old (oOa_5 c)).trans c.z5
    have m := c.b5.at0 hF.inv
    refine ⟨.agg #[.pointer u5], W, ?_, rfl, Nx.refl W, hF.inv⟩
    show (execOp a.eval _).run Try.prog W = _
    simp only [execOp, e5]
    simp [go_sem, m]⟩
theorem sOa_2 (c : COa ops a0 W0 B5 u5 xs) : Stp Try.prog ops Q a0 (KOa W0 B5 u5 xs) (IOa W0 B5 u5 xs) 2 := stp_call (huOa c) (hOa_2 c) rfl (by rw [c.hz]; decide) fun l a W hF hn hd => ⟨want_none rfl, by
    have e32 : a.eval (.tmp 32) = .agg #[.pointer u5] := by obtain ⟨v, e, p⟩ := hF.get (hOa_1 c) rfl (hd.at 1 (by rfl)); exact e.trans p
    refine ⟨13, #[.agg #[.pointer u5]], _, run_enter rfl (by simp only [List.map_toArray, List.map_cons, List.map_nil, e32]) (eval_func _ _) (enters_of Try.func13 (by kernel_rfl) rfl), tsize_any W _ xs (c.t5.nx hF.inv), ?_⟩
    rintro e W' ⟨rfl, hn2⟩; exact ⟨_, rfl, rfl, hn2, (hF.inv.trans hn2)⟩⟩
theorem sOa_3 (c : COa ops a0 W0 B5 u5 xs) : Stp Try.prog ops Q a0 (KOa W0 B5 u5 xs) (IOa W0 B5 u5 xs) 3 := stp_val (huOa c) (hOa_3 c) rfl (by rw [c.hz]; decide) fun l a W hF hn hd => ⟨want_none rfl, by
    have e33 : a.eval (.tmp 33) = .int .i64 (xs.length : Int) := by obtain ⟨v, e, p⟩ := hF.get (hOa_2 c) rfl (hd.at 2 (by rfl)); exact e.trans p
    have q := IntWalk.i64_in ((xs.length : Int) + 1) (by have := c.xsn; omega)
    refine ⟨.int .i64 ((xs.length : Int) + 1), W, ?_, rfl, Nx.refl W, hF.inv⟩
    show (execOp a.eval _).run Try.prog W = _
    simp only [execOp, e33]
    simp [go_sem, q]⟩
theorem sOa_4 (c : COa ops a0 W0 B5 u5 xs) : Stp Try.prog ops Q a0 (KOa W0 B5 u5 xs) (IOa W0 B5 u5 xs) 4 := stp_call (huOa c) (hOa_4 c) rfl (by rw [c.hz]; decide) fun l a W hF hn hd => ⟨want_none rfl, by
    have e31 : a.eval (.tmp 31) = .agg #[.pointer u5] := by obtain ⟨v, e, p⟩ := hF.get (hOa_0 c) rfl (hd.at 0 (by rfl)); exact e.trans p
    have e34 : a.eval (.tmp 34) = .int .i64 ((xs.length : Int) + 1) := by obtain ⟨v, e, p⟩ := hF.get (hOa_3 c) rfl (hd.at 3 (by rfl)); exact e.trans p
    refine ⟨23, #[.agg #[.pointer u5], .string ⟨#[]⟩, .string ⟨#[]⟩, .int .i64 ((xs.length : Int) + 1)], _, run_enter rfl (by simp only [List.map_toArray, List.map_cons, List.map_nil, e31, e34, eval_const]) (eval_func _ _) (enters_of Try.func23 (by kernel_rfl) rfl), trange_any W _ xs [] [] _ (c.t5.nx hF.inv) c.xsn (by omega) (by have := c.xsn; omega), ?_⟩
    rintro e W' ⟨r, rfl, hrow, hn2⟩; rw [range_more] at hrow; exact ⟨_, rfl, hrow.rdp, hn2, (hF.inv.trans hn2)⟩⟩
theorem sOa_5 (c : COa ops a0 W0 B5 u5 xs) : Stp Try.prog ops Q a0 (KOa W0 B5 u5 xs) (IOa W0 B5 u5 xs) 5 := stp_val (huOa c) (hOa_5 c) rfl (by rw [c.hz]; decide) fun l a W hF hn hd => ⟨want_none rfl, by
    obtain ⟨v35, e35, p35⟩ := hF.get (hOa_4 c) rfl (hd.at 4 (by rfl))
    have p35 : RdP W v35 (xs.map prOf) := p35
    exact ⟨v35, W, by show Result.ok (Next.value (a.eval _)) W = _; rw [e35], p35, Nx.refl W, hF.inv⟩⟩
theorem rgOa (c : COa ops a0 W0 B5 u5 xs) {id : Nat} (fin : ∀ (x31 x32 x33 x34 x35 x7 : Value) (W : World), RdP W x7 (xs.map prOf) → Nx W0 W → Q .normal { tmps := ((((((a0.tmps.setIfInBounds 31 x31).setIfInBounds 32 x32).setIfInBounds 33 x33).setIfInBounds 34 x34).setIfInBounds 35 x35).setIfInBounds 7 x7), defers := a0.defers } W) : (Code.region id ops true).wp Try.prog Q a0 W0 := by
  refine flows (K := (KOa W0 B5 u5 xs)) (Inv := (IOa W0 B5 u5 xs)) (by kernel_rfl) (hoOa c) (hnOa c) (Nx.refl W0).drew ⟨⟨⟨⟨⟨⟨trivial, sOa_0 c⟩, sOa_1 c⟩, sOa_2 c⟩, sOa_3 c⟩, sOa_4 c⟩, sOa_5 c⟩ fun l a W hF hl => ?_
  have f := hF.form
  rw [hdOa c] at f
  simp only [List.foldl] at f
  obtain ⟨v7, e7, p7⟩ := hF.get (hOa_5 c) rfl (hl 5 (by decide))
  have q7 : a.tmps.getD 7 undef = v7 := e7
  rw [q7] at f
  rw [f]
  exact fin _ _ _ _ _ v7 W p7 hF.inv
theorem rgOaL {t0_ t1_ t2_ t3_ t4_ t5_ t6_ t7_ t8_ t9_ t10_ t11_ t12_ t13_ t14_ t15_ t16_ t17_ t18_ t19_ t20_ t21_ t22_ t23_ t24_ t25_ t26_ t27_ t28_ t29_ t30_ t31_ t32_ t33_ t34_ t35_ t36_ t37_ t38_ t39_ t40_ t41_ t42_ t43_ t44_ t45_ t46_ t47_ t48_ t49_ t50_ t51_ t52_ t53_ t54_ t55_ t56_ t57_ t58_ t59_ t60_ t61_ t62_ t63_ t64_ t65_ t66_ t67_ t68_ t69_ t70_ t71_ t72_ t73_ t74_ t75_ t76_ t77_ t78_ t79_ t80_ t81_ t82_ t83_ t84_ t85_ t86_ t87_ t88_ t89_ t90_ t91_ t92_ t93_ t94_ t95_ t96_ t97_ t98_ t99_ t100_ t101_ t102_ t103_ t104_ t105_ t106_ t107_ t108_ t109_ t110_ t111_ t112_ t113_ t114_ t115_ t116_ t117_ t118_ t119_ t120_ t121_ t122_ t123_ t124_ t125_ t126_ t127_ t128_ t129_ t130_ t131_ t132_ t133_ t134_ t135_ t136_ t137_ t138_ t139_ t140_ t141_ t142_ t143_ t144_ t145_ t146_ t147_ t148_ t149_ t150_ t151_ t152_ t153_ t154_ : Value} {d_ : List Deferred} (c : COa ops { tmps := #[t0_, t1_, t2_, t3_, t4_, t5_, t6_, t7_, t8_, t9_, t10_, t11_, t12_, t13_, t14_, t15_, t16_, t17_, t18_, t19_, t20_, t21_, t22_, t23_, t24_, t25_, t26_, t27_, t28_, t29_, t30_, t31_, t32_, t33_, t34_, t35_, t36_, t37_, t38_, t39_, t40_, t41_, t42_, t43_, t44_, t45_, t46_, t47_, t48_, t49_, t50_, t51_, t52_, t53_, t54_, t55_, t56_, t57_, t58_, t59_, t60_, t61_, t62_, t63_, t64_, t65_, t66_, t67_, t68_, t69_, t70_, t71_, t72_, t73_, t74_, t75_, t76_, t77_, t78_, t79_, t80_, t81_, t82_, t83_, t84_, t85_, t86_, t87_, t88_, t89_, t90_, t91_, t92_, t93_, t94_, t95_, t96_, t97_, t98_, t99_, t100_, t101_, t102_, t103_, t104_, t105_, t106_, t107_, t108_, t109_, t110_, t111_, t112_, t113_, t114_, t115_, t116_, t117_, t118_, t119_, t120_, t121_, t122_, t123_, t124_, t125_, t126_, t127_, t128_, t129_, t130_, t131_, t132_, t133_, t134_, t135_, t136_, t137_, t138_, t139_, t140_, t141_, t142_, t143_, t144_, t145_, t146_, t147_, t148_, t149_, t150_, t151_, t152_, t153_, t154_], defers := d_ } W0 B5 u5 xs) {id : Nat} (fin : ∀ (x31 x32 x33 x34 x35 x7 : Value) (W : World), RdP W x7 (xs.map prOf) → Nx W0 W → Q .normal { tmps := #[t0_, t1_, t2_, t3_, t4_, t5_, t6_, x7, t8_, t9_, t10_, t11_, t12_, t13_, t14_, t15_, t16_, t17_, t18_, t19_, t20_, t21_, t22_, t23_, t24_, t25_, t26_, t27_, t28_, t29_, t30_, x31, x32, x33, x34, x35, t36_, t37_, t38_, t39_, t40_, t41_, t42_, t43_, t44_, t45_, t46_, t47_, t48_, t49_, t50_, t51_, t52_, t53_, t54_, t55_, t56_, t57_, t58_, t59_, t60_, t61_, t62_, t63_, t64_, t65_, t66_, t67_, t68_, t69_, t70_, t71_, t72_, t73_, t74_, t75_, t76_, t77_, t78_, t79_, t80_, t81_, t82_, t83_, t84_, t85_, t86_, t87_, t88_, t89_, t90_, t91_, t92_, t93_, t94_, t95_, t96_, t97_, t98_, t99_, t100_, t101_, t102_, t103_, t104_, t105_, t106_, t107_, t108_, t109_, t110_, t111_, t112_, t113_, t114_, t115_, t116_, t117_, t118_, t119_, t120_, t121_, t122_, t123_, t124_, t125_, t126_, t127_, t128_, t129_, t130_, t131_, t132_, t133_, t134_, t135_, t136_, t137_, t138_, t139_, t140_, t141_, t142_, t143_, t144_, t145_, t146_, t147_, t148_, t149_, t150_, t151_, t152_, t153_, t154_], defers := d_ } W) : (Code.region id ops true).wp Try.prog Q { tmps := #[t0_, t1_, t2_, t3_, t4_, t5_, t6_, t7_, t8_, t9_, t10_, t11_, t12_, t13_, t14_, t15_, t16_, t17_, t18_, t19_, t20_, t21_, t22_, t23_, t24_, t25_, t26_, t27_, t28_, t29_, t30_, t31_, t32_, t33_, t34_, t35_, t36_, t37_, t38_, t39_, t40_, t41_, t42_, t43_, t44_, t45_, t46_, t47_, t48_, t49_, t50_, t51_, t52_, t53_, t54_, t55_, t56_, t57_, t58_, t59_, t60_, t61_, t62_, t63_, t64_, t65_, t66_, t67_, t68_, t69_, t70_, t71_, t72_, t73_, t74_, t75_, t76_, t77_, t78_, t79_, t80_, t81_, t82_, t83_, t84_, t85_, t86_, t87_, t88_, t89_, t90_, t91_, t92_, t93_, t94_, t95_, t96_, t97_, t98_, t99_, t100_, t101_, t102_, t103_, t104_, t105_, t106_, t107_, t108_, t109_, t110_, t111_, t112_, t113_, t114_, t115_, t116_, t117_, t118_, t119_, t120_, t121_, t122_, t123_, t124_, t125_, t126_, t127_, t128_, t129_, t130_, t131_, t132_, t133_, t134_, t135_, t136_, t137_, t138_, t139_, t140_, t141_, t142_, t143_, t144_, t145_, t146_, t147_, t148_, t149_, t150_, t151_, t152_, t153_, t154_], defers := d_ } W0 := by
  refine rgOa c ?_
  intro x31 x32 x33 x34 x35 x7 W
  have e : ((((((#[t0_, t1_, t2_, t3_, t4_, t5_, t6_, t7_, t8_, t9_, t10_, t11_, t12_, t13_, t14_, t15_, t16_, t17_, t18_, t19_, t20_, t21_, t22_, t23_, t24_, t25_, t26_, t27_, t28_, t29_, t30_, t31_, t32_, t33_, t34_, t35_, t36_, t37_, t38_, t39_, t40_, t41_, t42_, t43_, t44_, t45_, t46_, t47_, t48_, t49_, t50_, t51_, t52_, t53_, t54_, t55_, t56_, t57_, t58_, t59_, t60_, t61_, t62_, t63_, t64_, t65_, t66_, t67_, t68_, t69_, t70_, t71_, t72_, t73_, t74_, t75_, t76_, t77_, t78_, t79_, t80_, t81_, t82_, t83_, t84_, t85_, t86_, t87_, t88_, t89_, t90_, t91_, t92_, t93_, t94_, t95_, t96_, t97_, t98_, t99_, t100_, t101_, t102_, t103_, t104_, t105_, t106_, t107_, t108_, t109_, t110_, t111_, t112_, t113_, t114_, t115_, t116_, t117_, t118_, t119_, t120_, t121_, t122_, t123_, t124_, t125_, t126_, t127_, t128_, t129_, t130_, t131_, t132_, t133_, t134_, t135_, t136_, t137_, t138_, t139_, t140_, t141_, t142_, t143_, t144_, t145_, t146_, t147_, t148_, t149_, t150_, t151_, t152_, t153_, t154_].setIfInBounds 31 x31).setIfInBounds 32 x32).setIfInBounds 33 x33).setIfInBounds 34 x34).setIfInBounds 35 x35).setIfInBounds 7 x7) = #[t0_, t1_, t2_, t3_, t4_, t5_, t6_, x7, t8_, t9_, t10_, t11_, t12_, t13_, t14_, t15_, t16_, t17_, t18_, t19_, t20_, t21_, t22_, t23_, t24_, t25_, t26_, t27_, t28_, t29_, t30_, x31, x32, x33, x34, x35, t36_, t37_, t38_, t39_, t40_, t41_, t42_, t43_, t44_, t45_, t46_, t47_, t48_, t49_, t50_, t51_, t52_, t53_, t54_, t55_, t56_, t57_, t58_, t59_, t60_, t61_, t62_, t63_, t64_, t65_, t66_, t67_, t68_, t69_, t70_, t71_, t72_, t73_, t74_, t75_, t76_, t77_, t78_, t79_, t80_, t81_, t82_, t83_, t84_, t85_, t86_, t87_, t88_, t89_, t90_, t91_, t92_, t93_, t94_, t95_, t96_, t97_, t98_, t99_, t100_, t101_, t102_, t103_, t104_, t105_, t106_, t107_, t108_, t109_, t110_, t111_, t112_, t113_, t114_, t115_, t116_, t117_, t118_, t119_, t120_, t121_, t122_, t123_, t124_, t125_, t126_, t127_, t128_, t129_, t130_, t131_, t132_, t133_, t134_, t135_, t136_, t137_, t138_, t139_, t140_, t141_, t142_, t143_, t144_, t145_, t146_, t147_, t148_, t149_, t150_, t151_, t152_, t153_, t154_] := by kernel_rfl
  have f := fin x31 x32 x33 x34 x35 x7 W
  rw [← e] at f
  exact f
end
section
variable {ops : Array Oper} {a0 : Act} {W0 : World} {Q : Exit → Act → World → Prop} {B5 : Nat} {u5 : Option Addr} {xs : List KV} {key : Str}
structure COb (ops : Array Oper) (a0 : Act) (W0 : World) (B5 : Nat) (u5 : Option Addr) (xs : List KV) (key : Str) : Prop where
  hops : rops Try.f6 13 = ops
  hz : a0.tmps.size = 155
  z5 : a0.eval (.tmp 5) = .pointer (some ⟨B5, 0, none⟩)
  z1 : a0.eval (.tmp 1) = .string (S key)
  b5 : BlkIs W0 B5 24 #[.pointer u5]
  t5 : Tb W0 (.agg #[.pointer u5]) xs
  xsn : xs.length ≤ 100000000
def KOb (W0 : World) (B5 : Nat) (u5 : Option Addr) (xs : List KV) (key : Str) : List Kd := [Kd.eq (.agg #[.pointer u5]), Kd.eq (.string (S key)), Kd.eq (.agg #[.pointer u5]), Kd.eq (.int .i64 (xs.length : Int)), Kd.of (fun v W => RdC W v ((xs.drop (place key xs)).map prOf)) RdC.nx, Kd.of (fun v W => RdC W v ((xs.drop (place key xs)).map prOf)) RdC.nx]
/-- What is kept. -/
abbrev IOb (W0 : World) (B5 : Nat) (u5 : Option Addr) (xs : List KV) (key : Str) : Array Bool → World → Prop := (fun _ W => Nx W0 W)
theorem hOb_0 (c : COb ops a0 W0 B5 u5 xs key) : ops[0]? = some { dst := some 72, op := .load 24 (.tmp 5), type := 24, pos := "law.go:123", after := #[], guard := none } := by rw [← c.hops]; rfl
theorem hOb_1 (c : COb ops a0 W0 B5 u5 xs key) : ops[1]? = some { dst := some 73, op := .move (.tmp 1), type := 9, pos := "law.go:123", after := #[], guard := none } := by rw [← c.hops]; rfl
theorem hOb_2 (c : COb ops a0 W0 B5 u5 xs key) : ops[2]? = some { dst := some 74, op := .load 24 (.tmp 5), type := 24, pos := "law.go:123", after := #[], guard := none } := by rw [← c.hops]; rfl
theorem hOb_3 (c : COb ops a0 W0 B5 u5 xs key) : ops[3]? = some { dst := some 75, op := .call { callee := .value (.func 13), args := #[.tmp 74], argTypes := #[24] }, type := 3, pos := "law.go:123", after := #[{ on := 2, ground := .data }], guard := none } := by rw [← c.hops]; rfl
theorem hOb_4 (c : COb ops a0 W0 B5 u5 xs key) : ops[4]? = some { dst := some 76, op := .call { callee := .value (.func 23), args := #[.tmp 72, .tmp 73, .const (.string { data := #[] }), .tmp 75], argTypes := #[24, 9, 9, 3] }, type := 33, pos := "law.go:123", after := #[{ on := 0, ground := .data }, { on := 1, ground := .data }, { on := 3, ground := .data }, { on := 3, ground := .chain }], guard := none } := by rw [← c.hops]; rfl
theorem hOb_5 (c : COb ops a0 W0 B5 u5 xs key) : ops[5]? = some { dst := some 10, op := .assign (.tmp 76), type := 33, pos := "law.go:123", after := #[{ on := 4, ground := .data }, { on := 4, ground := .chain }, { on := 0, ground := .phase }, { on := 1, ground := .phase }, { on := 2, ground := .phase }, { on := 3, ground := .phase }, { on := 4, ground := .phase }], guard := none } := by rw [← c.hops]; rfl
theorem huOb (c : COb ops a0 W0 B5 u5 xs key) : dstB ops = true := by rw [← c.hops]; kernel_rfl
theorem hoOb (c : COb ops a0 W0 B5 u5 xs key) : ordB ops = true := by rw [← c.hops]; kernel_rfl
theorem hnOb (c : COb ops a0 W0 B5 u5 xs key) : ops.size = 6 := by rw [← c.hops]; rfl
theorem hdOb (c : COb ops a0 W0 B5 u5 xs key) : dsts ops = [72, 73, 74, 75, 76, 10] := by rw [← c.hops]; rfl
theorem oOb_5 (c : COb ops a0 W0 B5 u5 xs key) : oldB ops 5 = true := by rw [← c.hops]; kernel_rfl
theorem oOb_1 (c : COb ops a0 W0 B5 u5 xs key) : oldB ops 1 = true := by rw [← c.hops]; kernel_rfl
theorem sOb_0 (c : COb ops a0 W0 B5 u5 xs key) : Stp Try.prog ops Q a0 (KOb W0 B5 u5 xs key) (IOb W0 B5 u5 xs key) 0 := stp_val (huOb c) (hOb_0 c) rfl (by rw [c.hz]; decide) fun l a W hF hn hd => ⟨want_none rfl, by
    have e5 : a.eval (.tmp 5) = .pointer (some ⟨B5, 0, none⟩) := (hF.old (oOb_5 c)).trans c.z5
    have m := c.b5.at0 hF.inv
    refine ⟨.agg #[.pointer u5], W, ?_, rfl, Nx.refl W, hF.inv⟩
    show (execOp a.eval _).run Try.prog W = _
    simp only [execOp, e5]
    simp [go_sem, m]⟩
theorem sOb_1 (c : COb ops a0 W0 B5 u5 xs key) : Stp Try.prog ops Q a0 (KOb W0 B5 u5 xs key) (IOb W0 B5 u5 xs key) 1 := stp_val (huOb c) (hOb_1 c) rfl (by rw [c.hz]; decide) fun l a W hF hn hd => ⟨want_none rfl, by
    have e1 : a.eval (.tmp 1) = .string (S key) := (hF.old (oOb_1 c)).trans c.z1
    exact ⟨.string (S key), W, by show Result.ok (Next.value (a.eval _)) W = _; rw [e1], rfl, Nx.refl W, hF.inv⟩⟩
theorem sOb_2 (c : COb ops a0 W0 B5 u5 xs key) : Stp Try.prog ops Q a0 (KOb W0 B5 u5 xs key) (IOb W0 B5 u5 xs key) 2 := stp_val (huOb c) (hOb_2 c) rfl (by rw [c.hz]; decide) fun l a W hF hn hd => ⟨want_none rfl, by
    have e5 : a.eval (.tmp 5) = .pointer (some ⟨B5, 0, none⟩) := (hF.old (oOb_5 c)).trans c.z5
    have m := c.b5.at0 hF.inv
    refine ⟨.agg #[.pointer u5], W, ?_, rfl, Nx.refl W, hF.inv⟩
    show (execOp a.eval _).run Try.prog W = _
    simp only [execOp, e5]
    simp [go_sem, m]⟩
theorem sOb_3 (c : COb ops a0 W0 B5 u5 xs key) : Stp Try.prog ops Q a0 (KOb W0 B5 u5 xs key) (IOb W0 B5 u5 xs key) 3 := stp_call (huOb c) (hOb_3 c) rfl (by rw [c.hz]; decide) fun l a W hF hn hd => ⟨want_none rfl, by
    have e74 : a.eval (.tmp 74) = .agg #[.pointer u5] := by obtain ⟨v, e, p⟩ := hF.get (hOb_2 c) rfl (hd.at 2 (by rfl)); exact e.trans p
    refine ⟨13, #[.agg #[.pointer u5]], _, run_enter rfl (by simp only [List.map_toArray, List.map_cons, List.map_nil, e74]) (eval_func _ _) (enters_of Try.func13 (by kernel_rfl) rfl), tsize_any W _ xs (c.t5.nx hF.inv), ?_⟩
    rintro e W' ⟨rfl, hn2⟩; exact ⟨_, rfl, rfl, hn2, (hF.inv.trans hn2)⟩⟩
theorem sOb_4 (c : COb ops a0 W0 B5 u5 xs key) : Stp Try.prog ops Q a0 (KOb W0 B5 u5 xs key) (IOb W0 B5 u5 xs key) 4 := stp_call (huOb c) (hOb_4 c) rfl (by rw [c.hz]; decide) fun l a W hF hn hd => ⟨want_none rfl, by
    have e72 : a.eval (.tmp 72) = .agg #[.pointer u5] := by obtain ⟨v, e, p⟩ := hF.get (hOb_0 c) rfl (hd.at 0 (by rfl)); exact e.trans p
    have e73 : a.eval (.tmp 73) = .string (S key) := by obtain ⟨v, e, p⟩ := hF.get (hOb_1 c) rfl (hd.at 1 (by rfl)); exact e.trans p
    have e75 : a.eval (.tmp 75) = .int .i64 (xs.length : Int) := by obtain ⟨v, e, p⟩ := hF.get (hOb_3 c) rfl (hd.at 3 (by rfl)); exact e.trans p
    refine ⟨23, #[.agg #[.pointer u5], .string (S key), .string ⟨#[]⟩, .int .i64 (xs.length : Int)], _, run_enter rfl (by simp only [List.map_toArray, List.map_cons, List.map_nil, e72, e73, e75, eval_const]) (eval_func _ _) (enters_of Try.func23 (by kernel_rfl) rfl), trange_any W _ xs key [] _ (c.t5.nx hF.inv) c.xsn (by omega) (by have := c.xsn; omega), ?_⟩
    rintro e W' ⟨r, rfl, hrow, hn2⟩; rw [range_from] at hrow; exact ⟨_, rfl, hrow.rdc, hn2, (hF.inv.trans hn2)⟩⟩
theorem sOb_5 (c : COb ops a0 W0 B5 u5 xs key) : Stp Try.prog ops Q a0 (KOb W0 B5 u5 xs key) (IOb W0 B5 u5 xs key) 5 := stp_val (huOb c) (hOb_5 c) rfl (by rw [c.hz]; decide) fun l a W hF hn hd => ⟨want_none rfl, by
    obtain ⟨v76, e76, p76⟩ := hF.get (hOb_4 c) rfl (hd.at 4 (by rfl))
    have p76 : RdC W v76 ((xs.drop (place key xs)).map prOf) := p76
    exact ⟨v76, W, by show Result.ok (Next.value (a.eval _)) W = _; rw [e76], p76, Nx.refl W, hF.inv⟩⟩
theorem rgOb (c : COb ops a0 W0 B5 u5 xs key) {id : Nat} (fin : ∀ (x72 x73 x74 x75 x76 x10 : Value) (W : World), RdC W x10 ((xs.drop (place key xs)).map prOf) → Nx W0 W → Q .normal { tmps := ((((((a0.tmps.setIfInBounds 72 x72).setIfInBounds 73 x73).setIfInBounds 74 x74).setIfInBounds 75 x75).setIfInBounds 76 x76).setIfInBounds 10 x10), defers := a0.defers } W) : (Code.region id ops true).wp Try.prog Q a0 W0 := by
  refine flows (K := (KOb W0 B5 u5 xs key)) (Inv := (IOb W0 B5 u5 xs key)) (by kernel_rfl) (hoOb c) (hnOb c) (Nx.refl W0).drew ⟨⟨⟨⟨⟨⟨trivial, sOb_0 c⟩, sOb_1 c⟩, sOb_2 c⟩, sOb_3 c⟩, sOb_4 c⟩, sOb_5 c⟩ fun l a W hF hl => ?_
  have f := hF.form
  rw [hdOb c] at f
  simp only [List.foldl] at f
  obtain ⟨v10, e10, p10⟩ := hF.get (hOb_5 c) rfl (hl 5 (by decide))
  have q10 : a.tmps.getD 10 undef = v10 := e10
  rw [q10] at f
  rw [f]
  exact fin _ _ _ _ _ v10 W p10 hF.inv
theorem rgObL {t0_ t1_ t2_ t3_ t4_ t5_ t6_ t7_ t8_ t9_ t10_ t11_ t12_ t13_ t14_ t15_ t16_ t17_ t18_ t19_ t20_ t21_ t22_ t23_ t24_ t25_ t26_ t27_ t28_ t29_ t30_ t31_ t32_ t33_ t34_ t35_ t36_ t37_ t38_ t39_ t40_ t41_ t42_ t43_ t44_ t45_ t46_ t47_ t48_ t49_ t50_ t51_ t52_ t53_ t54_ t55_ t56_ t57_ t58_ t59_ t60_ t61_ t62_ t63_ t64_ t65_ t66_ t67_ t68_ t69_ t70_ t71_ t72_ t73_ t74_ t75_ t76_ t77_ t78_ t79_ t80_ t81_ t82_ t83_ t84_ t85_ t86_ t87_ t88_ t89_ t90_ t91_ t92_ t93_ t94_ t95_ t96_ t97_ t98_ t99_ t100_ t101_ t102_ t103_ t104_ t105_ t106_ t107_ t108_ t109_ t110_ t111_ t112_ t113_ t114_ t115_ t116_ t117_ t118_ t119_ t120_ t121_ t122_ t123_ t124_ t125_ t126_ t127_ t128_ t129_ t130_ t131_ t132_ t133_ t134_ t135_ t136_ t137_ t138_ t139_ t140_ t141_ t142_ t143_ t144_ t145_ t146_ t147_ t148_ t149_ t150_ t151_ t152_ t153_ t154_ : Value} {d_ : List Deferred} (c : COb ops { tmps := #[t0_, t1_, t2_, t3_, t4_, t5_, t6_, t7_, t8_, t9_, t10_, t11_, t12_, t13_, t14_, t15_, t16_, t17_, t18_, t19_, t20_, t21_, t22_, t23_, t24_, t25_, t26_, t27_, t28_, t29_, t30_, t31_, t32_, t33_, t34_, t35_, t36_, t37_, t38_, t39_, t40_, t41_, t42_, t43_, t44_, t45_, t46_, t47_, t48_, t49_, t50_, t51_, t52_, t53_, t54_, t55_, t56_, t57_, t58_, t59_, t60_, t61_, t62_, t63_, t64_, t65_, t66_, t67_, t68_, t69_, t70_, t71_, t72_, t73_, t74_, t75_, t76_, t77_, t78_, t79_, t80_, t81_, t82_, t83_, t84_, t85_, t86_, t87_, t88_, t89_, t90_, t91_, t92_, t93_, t94_, t95_, t96_, t97_, t98_, t99_, t100_, t101_, t102_, t103_, t104_, t105_, t106_, t107_, t108_, t109_, t110_, t111_, t112_, t113_, t114_, t115_, t116_, t117_, t118_, t119_, t120_, t121_, t122_, t123_, t124_, t125_, t126_, t127_, t128_, t129_, t130_, t131_, t132_, t133_, t134_, t135_, t136_, t137_, t138_, t139_, t140_, t141_, t142_, t143_, t144_, t145_, t146_, t147_, t148_, t149_, t150_, t151_, t152_, t153_, t154_], defers := d_ } W0 B5 u5 xs key) {id : Nat} (fin : ∀ (x72 x73 x74 x75 x76 x10 : Value) (W : World), RdC W x10 ((xs.drop (place key xs)).map prOf) → Nx W0 W → Q .normal { tmps := #[t0_, t1_, t2_, t3_, t4_, t5_, t6_, t7_, t8_, t9_, x10, t11_, t12_, t13_, t14_, t15_, t16_, t17_, t18_, t19_, t20_, t21_, t22_, t23_, t24_, t25_, t26_, t27_, t28_, t29_, t30_, t31_, t32_, t33_, t34_, t35_, t36_, t37_, t38_, t39_, t40_, t41_, t42_, t43_, t44_, t45_, t46_, t47_, t48_, t49_, t50_, t51_, t52_, t53_, t54_, t55_, t56_, t57_, t58_, t59_, t60_, t61_, t62_, t63_, t64_, t65_, t66_, t67_, t68_, t69_, t70_, t71_, x72, x73, x74, x75, x76, t77_, t78_, t79_, t80_, t81_, t82_, t83_, t84_, t85_, t86_, t87_, t88_, t89_, t90_, t91_, t92_, t93_, t94_, t95_, t96_, t97_, t98_, t99_, t100_, t101_, t102_, t103_, t104_, t105_, t106_, t107_, t108_, t109_, t110_, t111_, t112_, t113_, t114_, t115_, t116_, t117_, t118_, t119_, t120_, t121_, t122_, t123_, t124_, t125_, t126_, t127_, t128_, t129_, t130_, t131_, t132_, t133_, t134_, t135_, t136_, t137_, t138_, t139_, t140_, t141_, t142_, t143_, t144_, t145_, t146_, t147_, t148_, t149_, t150_, t151_, t152_, t153_, t154_], defers := d_ } W) : (Code.region id ops true).wp Try.prog Q { tmps := #[t0_, t1_, t2_, t3_, t4_, t5_, t6_, t7_, t8_, t9_, t10_, t11_, t12_, t13_, t14_, t15_, t16_, t17_, t18_, t19_, t20_, t21_, t22_, t23_, t24_, t25_, t26_, t27_, t28_, t29_, t30_, t31_, t32_, t33_, t34_, t35_, t36_, t37_, t38_, t39_, t40_, t41_, t42_, t43_, t44_, t45_, t46_, t47_, t48_, t49_, t50_, t51_, t52_, t53_, t54_, t55_, t56_, t57_, t58_, t59_, t60_, t61_, t62_, t63_, t64_, t65_, t66_, t67_, t68_, t69_, t70_, t71_, t72_, t73_, t74_, t75_, t76_, t77_, t78_, t79_, t80_, t81_, t82_, t83_, t84_, t85_, t86_, t87_, t88_, t89_, t90_, t91_, t92_, t93_, t94_, t95_, t96_, t97_, t98_, t99_, t100_, t101_, t102_, t103_, t104_, t105_, t106_, t107_, t108_, t109_, t110_, t111_, t112_, t113_, t114_, t115_, t116_, t117_, t118_, t119_, t120_, t121_, t122_, t123_, t124_, t125_, t126_, t127_, t128_, t129_, t130_, t131_, t132_, t133_, t134_, t135_, t136_, t137_, t138_, t139_, t140_, t141_, t142_, t143_, t144_, t145_, t146_, t147_, t148_, t149_, t150_, t151_, t152_, t153_, t154_], defers := d_ } W0 := by
  refine rgOb c ?_
  intro x72 x73 x74 x75 x76 x10 W
  have e : ((((((#[t0_, t1_, t2_, t3_, t4_, t5_, t6_, t7_, t8_, t9_, t10_, t11_, t12_, t13_, t14_, t15_, t16_, t17_, t18_, t19_, t20_, t21_, t22_, t23_, t24_, t25_, t26_, t27_, t28_, t29_, t30_, t31_, t32_, t33_, t34_, t35_, t36_, t37_, t38_, t39_, t40_, t41_, t42_, t43_, t44_, t45_, t46_, t47_, t48_, t49_, t50_, t51_, t52_, t53_, t54_, t55_, t56_, t57_, t58_, t59_, t60_, t61_, t62_, t63_, t64_, t65_, t66_, t67_, t68_, t69_, t70_, t71_, t72_, t73_, t74_, t75_, t76_, t77_, t78_, t79_, t80_, t81_, t82_, t83_, t84_, t85_, t86_, t87_, t88_, t89_, t90_, t91_, t92_, t93_, t94_, t95_, t96_, t97_, t98_, t99_, t100_, t101_, t102_, t103_, t104_, t105_, t106_, t107_, t108_, t109_, t110_, t111_, t112_, t113_, t114_, t115_, t116_, t117_, t118_, t119_, t120_, t121_, t122_, t123_, t124_, t125_, t126_, t127_, t128_, t129_, t130_, t131_, t132_, t133_, t134_, t135_, t136_, t137_, t138_, t139_, t140_, t141_, t142_, t143_, t144_, t145_, t146_, t147_, t148_, t149_, t150_, t151_, t152_, t153_, t154_].setIfInBounds 72 x72).setIfInBounds 73 x73).setIfInBounds 74 x74).setIfInBounds 75 x75).setIfInBounds 76 x76).setIfInBounds 10 x10) = #[t0_, t1_, t2_, t3_, t4_, t5_, t6_, t7_, t8_, t9_, x10, t11_, t12_, t13_, t14_, t15_, t16_, t17_, t18_, t19_, t20_, t21_, t22_, t23_, t24_, t25_, t26_, t27_, t28_, t29_, t30_, t31_, t32_, t33_, t34_, t35_, t36_, t37_, t38_, t39_, t40_, t41_, t42_, t43_, t44_, t45_, t46_, t47_, t48_, t49_, t50_, t51_, t52_, t53_, t54_, t55_, t56_, t57_, t58_, t59_, t60_, t61_, t62_, t63_, t64_, t65_, t66_, t67_, t68_, t69_, t70_, t71_, x72, x73, x74, x75, x76, t77_, t78_, t79_, t80_, t81_, t82_, t83_, t84_, t85_, t86_, t87_, t88_, t89_, t90_, t91_, t92_, t93_, t94_, t95_, t96_, t97_, t98_, t99_, t100_, t101_, t102_, t103_, t104_, t105_, t106_, t107_, t108_, t109_, t110_, t111_, t112_, t113_, t114_, t115_, t116_, t117_, t118_, t119_, t120_, t121_, t122_, t123_, t124_, t125_, t126_, t127_, t128_, t129_, t130_, t131_, t132_, t133_, t134_, t135_, t136_, t137_, t138_, t139_, t140_, t141_, t142_, t143_, t144_, t145_, t146_, t147_, t148_, t149_, t150_, t151_, t152_, t153_, t154_] := by kernel_rfl
  have f := fin x72 x73 x74 x75 x76 x10 W
  rw [← e] at f
  exact f
end
section
variable {ops : Array Oper} {a0 : Act} {W0 : World} {Q : Exit → Act → World → Prop} {B5 ba oa m cc i : Nat} {u5 : Option Addr} {xs : List KV} {kb : Str}
structure COd (ops : Array Oper) (a0 : Act) (W0 : World) (B5 ba oa m cc i : Nat) (u5 : Option Addr) (xs : List KV) (kb : Str) : Prop where
  hops : rops Try.f6 10 = ops
  hz : a0.tmps.size = 155
  z5 : a0.eval (.tmp 5) = .pointer (some ⟨B5, 0, none⟩)
  z7 : a0.eval (.tmp 7) = .slice (some ⟨ba, oa, none⟩) m cc
  z8 : a0.eval (.tmp 8) = .int .i64 (i : Int)
  b5 : BlkIs W0 B5 24 #[.pointer u5]
  t5 : Tb W0 (.agg #[.pointer u5]) xs
  xsn : xs.length ≤ 100000000
  i1 : i < m
  ki : W0.cell? ⟨ba, oa + i * 3, none⟩ = some (.string (S kb))
  pl : place kb xs = i
  i0 : i = 0
def KOd (W0 : World) (B5 ba oa m cc i : Nat) (u5 : Option Addr) (xs : List KV) (kb : Str) : List Kd := [Kd.eq (.int .i64 (i : Int)), Kd.eq (.bool false), Kd.eq (.bool false), Kd.any, Kd.any, Kd.any, Kd.any, Kd.any, Kd.any, Kd.any, Kd.any, Kd.any, Kd.any, Kd.any, Kd.any, Kd.eq (.bool false), Kd.eq (.bool false), Kd.eq (.agg #[.pointer u5]), Kd.eq (.slice (some ⟨ba, oa, none⟩) m cc), Kd.eq (.int .i64 (i : Int)), Kd.eq (.pointer (some ⟨ba, oa + i * 3, none⟩)), Kd.eq (.pointer (some ⟨ba, oa + i * 3, none⟩)), Kd.eq (.string (S kb)), Kd.eq (.int .i64 (i : Nat)), Kd.eq (.int .i64 (i : Int)), Kd.eq (.bool false), Kd.eq (.bool false)]
/-- What is kept. -/
abbrev IOd (W0 : World) (B5 ba oa m cc i : Nat) (u5 : Option Addr) (xs : List KV) (kb : Str) : Array Bool → World → Prop := (fun _ W => Nx W0 W)
theorem hOd_0 (c : COd ops a0 W0 B5 ba oa m cc i u5 xs kb) : ops[0]? = some { dst := some 42, op := .move (.tmp 8), type := 3, pos := "law.go:118", after := #[], guard := none } := by rw [← c.hops]; rfl
theorem hOd_1 (c : COd ops a0 W0 B5 ba oa m cc i u5 xs kb) : ops[1]? = some { dst := some 43, op := .binOp .gtr 3 (.tmp 42) (.const (.int .i64 0)) 3, type := 4, pos := "law.go:118", after := #[{ on := 0, ground := .data }], guard := none } := by rw [← c.hops]; rfl
theorem hOd_2 (c : COd ops a0 W0 B5 ba oa m cc i u5 xs kb) : ops[2]? = some { dst := some 44, op := .move (.tmp 43), type := 4, pos := "law.go:118", after := #[{ on := 1, ground := .data }], guard := none } := by rw [← c.hops]; rfl
theorem hOd_3 (c : COd ops a0 W0 B5 ba oa m cc i u5 xs kb) : ops[3]? = some { dst := some 45, op := .move (.tmp 7), type := 33, pos := "law.go:118", after := #[{ on := 2, ground := .guard }], guard := some (2, true) } := by rw [← c.hops]; rfl
theorem hOd_4 (c : COd ops a0 W0 B5 ba oa m cc i u5 xs kb) : ops[4]? = some { dst := some 46, op := .move (.tmp 8), type := 3, pos := "law.go:118", after := #[{ on := 2, ground := .guard }], guard := some (2, true) } := by rw [← c.hops]; rfl
theorem hOd_5 (c : COd ops a0 W0 B5 ba oa m cc i u5 xs kb) : ops[5]? = some { dst := some 47, op := .binOp .sub 3 (.tmp 46) (.const (.int .i64 1)) 3, type := 3, pos := "law.go:118", after := #[{ on := 4, ground := .data }, { on := 2, ground := .guard }], guard := some (2, true) } := by rw [← c.hops]; rfl
theorem hOd_6 (c : COd ops a0 W0 B5 ba oa m cc i u5 xs kb) : ops[6]? = some { dst := some 48, op := .indexAddr 33 (.tmp 45) (.tmp 47), type := 0, pos := "law.go:118", after := #[{ on := 3, ground := .data }, { on := 5, ground := .data }, { on := 2, ground := .guard }], guard := some (2, true) } := by rw [← c.hops]; rfl
theorem hOd_7 (c : COd ops a0 W0 B5 ba oa m cc i u5 xs kb) : ops[7]? = some { dst := some 49, op := .fieldAddr 40 (.tmp 48) 0, type := 0, pos := "law.go:118", after := #[{ on := 6, ground := .data }, { on := 2, ground := .guard }], guard := some (2, true) } := by rw [← c.hops]; rfl
theorem hOd_8 (c : COd ops a0 W0 B5 ba oa m cc i u5 xs kb) : ops[8]? = some { dst := some 50, op := .load 9 (.tmp 49), type := 9, pos := "law.go:118", after := #[{ on := 7, ground := .data }, { on := 2, ground := .guard }], guard := some (2, true) } := by rw [← c.hops]; rfl
theorem hOd_9 (c : COd ops a0 W0 B5 ba oa m cc i u5 xs kb) : ops[9]? = some { dst := some 51, op := .move (.tmp 7), type := 33, pos := "law.go:118", after := #[{ on := 2, ground := .guard }], guard := some (2, true) } := by rw [← c.hops]; rfl
theorem hOd_10 (c : COd ops a0 W0 B5 ba oa m cc i u5 xs kb) : ops[10]? = some { dst := some 52, op := .move (.tmp 8), type := 3, pos := "law.go:118", after := #[{ on := 2, ground := .guard }], guard := some (2, true) } := by rw [← c.hops]; rfl
theorem hOd_11 (c : COd ops a0 W0 B5 ba oa m cc i u5 xs kb) : ops[11]? = some { dst := some 53, op := .indexAddr 33 (.tmp 51) (.tmp 52), type := 0, pos := "law.go:118", after := #[{ on := 9, ground := .data }, { on := 10, ground := .data }, { on := 2, ground := .guard }], guard := some (2, true) } := by rw [← c.hops]; rfl
theorem hOd_12 (c : COd ops a0 W0 B5 ba oa m cc i u5 xs kb) : ops[12]? = some { dst := some 54, op := .fieldAddr 40 (.tmp 53) 0, type := 0, pos := "law.go:118", after := #[{ on := 11, ground := .data }, { on := 2, ground := .guard }], guard := some (2, true) } := by rw [← c.hops]; rfl
theorem hOd_13 (c : COd ops a0 W0 B5 ba oa m cc i u5 xs kb) : ops[13]? = some { dst := some 55, op := .load 9 (.tmp 54), type := 9, pos := "law.go:118", after := #[{ on := 12, ground := .data }, { on := 2, ground := .guard }], guard := some (2, true) } := by rw [← c.hops]; rfl
theorem hOd_14 (c : COd ops a0 W0 B5 ba oa m cc i u5 xs kb) : ops[14]? = some { dst := some 56, op := .binOp .geq 9 (.tmp 50) (.tmp 55) 9, type := 4, pos := "law.go:118", after := #[{ on := 8, ground := .data }, { on := 13, ground := .data }, { on := 2, ground := .guard }], guard := some (2, true) } := by rw [← c.hops]; rfl
theorem hOd_15 (c : COd ops a0 W0 B5 ba oa m cc i u5 xs kb) : ops[15]? = some { dst := some 57, op := .pick (.tmp 44) (.tmp 56) (.const (.bool false)), type := 4, pos := "law.go:118", after := #[{ on := 2, ground := .data }, { on := 14, ground := .data }], guard := none } := by rw [← c.hops]; rfl
theorem hOd_16 (c : COd ops a0 W0 B5 ba oa m cc i u5 xs kb) : ops[16]? = some { dst := some 58, op := .move (.tmp 57), type := 4, pos := "law.go:118", after := #[{ on := 15, ground := .data }, { on := 2, ground := .chain }], guard := none } := by rw [← c.hops]; rfl
theorem hOd_17 (c : COd ops a0 W0 B5 ba oa m cc i u5 xs kb) : ops[17]? = some { dst := some 59, op := .load 24 (.tmp 5), type := 24, pos := "law.go:118", after := #[{ on := 16, ground := .guard }], guard := some (16, false) } := by rw [← c.hops]; rfl
theorem hOd_18 (c : COd ops a0 W0 B5 ba oa m cc i u5 xs kb) : ops[18]? = some { dst := some 60, op := .move (.tmp 7), type := 33, pos := "law.go:118", after := #[{ on := 16, ground := .guard }], guard := some (16, false) } := by rw [← c.hops]; rfl
theorem hOd_19 (c : COd ops a0 W0 B5 ba oa m cc i u5 xs kb) : ops[19]? = some { dst := some 61, op := .move (.tmp 8), type := 3, pos := "law.go:118", after := #[{ on := 16, ground := .guard }], guard := some (16, false) } := by rw [← c.hops]; rfl
theorem hOd_20 (c : COd ops a0 W0 B5 ba oa m cc i u5 xs kb) : ops[20]? = some { dst := some 62, op := .indexAddr 33 (.tmp 60) (.tmp 61), type := 0, pos := "law.go:118", after := #[{ on := 18, ground := .data }, { on := 19, ground := .data }, { on := 16, ground := .guard }], guard := some (16, false) } := by rw [← c.hops]; rfl
theorem hOd_21 (c : COd ops a0 W0 B5 ba oa m cc i u5 xs kb) : ops[21]? = some { dst := some 63, op := .fieldAddr 40 (.tmp 62) 0, type := 0, pos := "law.go:118", after := #[{ on := 20, ground := .data }, { on := 16, ground := .guard }], guard := some (16, false) } := by rw [← c.hops]; rfl
theorem hOd_22 (c : COd ops a0 W0 B5 ba oa m cc i u5 xs kb) : ops[22]? = some { dst := some 64, op := .load 9 (.tmp 63), type := 9, pos := "law.go:118", after := #[{ on := 21, ground := .data }, { on := 16, ground := .guard }], guard := some (16, false) } := by rw [← c.hops]; rfl
theorem hOd_23 (c : COd ops a0 W0 B5 ba oa m cc i u5 xs kb) : ops[23]? = some { dst := some 65, op := .call { callee := .value (.func 25), args := #[.tmp 59, .tmp 64], argTypes := #[24, 9] }, type := 3, pos := "law.go:118", after := #[{ on := 17, ground := .data }, { on := 22, ground := .data }, { on := 16, ground := .chain }, { on := 16, ground := .guard }], guard := some (16, false) } := by rw [← c.hops]; rfl
theorem hOd_24 (c : COd ops a0 W0 B5 ba oa m cc i u5 xs kb) : ops[24]? = some { dst := some 66, op := .move (.tmp 8), type := 3, pos := "law.go:118", after := #[{ on := 16, ground := .guard }], guard := some (16, false) } := by rw [← c.hops]; rfl
theorem hOd_25 (c : COd ops a0 W0 B5 ba oa m cc i u5 xs kb) : ops[25]? = some { dst := some 67, op := .binOp .neq 3 (.tmp 65) (.tmp 66) 3, type := 4, pos := "law.go:118", after := #[{ on := 23, ground := .data }, { on := 24, ground := .data }, { on := 16, ground := .guard }], guard := some (16, false) } := by rw [← c.hops]; rfl
theorem hOd_26 (c : COd ops a0 W0 B5 ba oa m cc i u5 xs kb) : ops[26]? = some { dst := some 68, op := .pick (.tmp 58) (.const (.bool true)) (.tmp 67), type := 4, pos := "law.go:118", after := #[{ on := 16, ground := .data }, { on := 25, ground := .data }], guard := none } := by rw [← c.hops]; rfl
theorem huOd (c : COd ops a0 W0 B5 ba oa m cc i u5 xs kb) : dstB ops = true := by rw [← c.hops]; kernel_rfl
theorem hoOd (c : COd ops a0 W0 B5 ba oa m cc i u5 xs kb) : ordB ops = true := by rw [← c.hops]; kernel_rfl
theorem hnOd (c : COd ops a0 W0 B5 ba oa m cc i u5 xs kb) : ops.size = 27 := by rw [← c.hops]; rfl
theorem hdOd (c : COd ops a0 W0 B5 ba oa m cc i u5 xs kb) : dsts ops = [42, 43, 44, 45, 46, 47, 48, 49, 50, 51, 52, 53, 54, 55, 56, 57, 58, 59, 60, 61, 62, 63, 64, 65, 66, 67, 68] := by rw [← c.hops]; rfl
theorem oOd_5 (c : COd ops a0 W0 B5 ba oa m cc i u5 xs kb) : oldB ops 5 = true := by rw [← c.hops]; kernel_rfl
theorem oOd_7 (c : COd ops a0 W0 B5 ba oa m cc i u5 xs kb) : oldB ops 7 = true := by rw [← c.hops]; kernel_rfl
theorem oOd_8 (c : COd ops a0 W0 B5 ba oa m cc i u5 xs kb) : oldB ops 8 = true := by rw [← c.hops]; kernel_rfl
theorem sOd_0 (c : COd ops a0 W0 B5 ba oa m cc i u5 xs kb) : Stp Try.prog ops Q a0 (KOd W0 B5 ba oa m cc i u5 xs kb) (IOd W0 B5 ba oa m cc i u5 xs kb) 0 := stp_val (huOd c) (hOd_0 c) rfl (by rw [c.hz]; decide) fun l a W hF hn hd => ⟨want_none rfl, by
    have e8 : a.eval (.tmp 8) = .int .i64 (i : Int) := (hF.old (oOd_8 c)).trans c.z8
    exact ⟨.int .i64 (i : Int), W, by show Result.ok (Next.value (a.eval _)) W = _; rw [e8], rfl, Nx.refl W, hF.inv⟩⟩
theorem sOd_1 (c : COd ops a0 W0 B5 ba oa m cc i u5 xs kb) : Stp Try.prog ops Q a0 (KOd W0 B5 ba oa m cc i u5 xs kb) (IOd W0 B5 ba oa m cc i u5 xs kb) 1 := stp_val (huOd c) (hOd_1 c) rfl (by rw [c.hz]; decide) fun l a W hF hn hd => ⟨want_none rfl, by
    have e42 : a.eval (.tmp 42) = .int .i64 (i : Int) := by obtain ⟨v, e, p⟩ := hF.get (hOd_0 c) rfl (hd.at 0 (by rfl)); exact e.trans p
    have q := c.i0
    refine ⟨.bool false, W, ?_, rfl, Nx.refl W, hF.inv⟩
    show (execOp a.eval _).run Try.prog W = _
    simp only [execOp, e42]
    simp [go_sem, q]⟩
theorem sOd_2 (c : COd ops a0 W0 B5 ba oa m cc i u5 xs kb) : Stp Try.prog ops Q a0 (KOd W0 B5 ba oa m cc i u5 xs kb) (IOd W0 B5 ba oa m cc i u5 xs kb) 2 := stp_val (huOd c) (hOd_2 c) rfl (by rw [c.hz]; decide) fun l a W hF hn hd => ⟨want_none rfl, by
    have e43 : a.eval (.tmp 43) = .bool false := by obtain ⟨v, e, p⟩ := hF.get (hOd_1 c) rfl (hd.at 1 (by rfl)); exact e.trans p
    exact ⟨.bool false, W, by show Result.ok (Next.value (a.eval _)) W = _; rw [e43], rfl, Nx.refl W, hF.inv⟩⟩
theorem sOd_3 (c : COd ops a0 W0 B5 ba oa m cc i u5 xs kb) : Stp Try.prog ops Q a0 (KOd W0 B5 ba oa m cc i u5 xs kb) (IOd W0 B5 ba oa m cc i u5 xs kb) 3 := stp_not (huOd c) (hOd_3 c) rfl (by rw [c.hz]; decide) fun l a W hF hn hd => ⟨hF.unwant (k := 2) (b := true) rfl (hOd_2 c) rfl (hd.at 2 (by rfl)) (fun v h => h), trivial, hF.inv⟩
theorem sOd_4 (c : COd ops a0 W0 B5 ba oa m cc i u5 xs kb) : Stp Try.prog ops Q a0 (KOd W0 B5 ba oa m cc i u5 xs kb) (IOd W0 B5 ba oa m cc i u5 xs kb) 4 := stp_not (huOd c) (hOd_4 c) rfl (by rw [c.hz]; decide) fun l a W hF hn hd => ⟨hF.unwant (k := 2) (b := true) rfl (hOd_2 c) rfl (hd.at 2 (by rfl)) (fun v h => h), trivial, hF.inv⟩
theorem sOd_5 (c : COd ops a0 W0 B5 ba oa m cc i u5 xs kb) : Stp Try.prog ops Q a0 (KOd W0 B5 ba oa m cc i u5 xs kb) (IOd W0 B5 ba oa m cc i u5 xs kb) 5 := stp_not (huOd c) (hOd_5 c) rfl (by rw [c.hz]; decide) fun l a W hF hn hd => ⟨hF.unwant (k := 2) (b := true) rfl (hOd_2 c) rfl (hd.at 2 (by rfl)) (fun v h => h), trivial, hF.inv⟩
theorem sOd_6 (c : COd ops a0 W0 B5 ba oa m cc i u5 xs kb) : Stp Try.prog ops Q a0 (KOd W0 B5 ba oa m cc i u5 xs kb) (IOd W0 B5 ba oa m cc i u5 xs kb) 6 := stp_not (huOd c) (hOd_6 c) rfl (by rw [c.hz]; decide) fun l a W hF hn hd => ⟨hF.unwant (k := 2) (b := true) rfl (hOd_2 c) rfl (hd.at 2 (by rfl)) (fun v h => h), trivial, hF.inv⟩
theorem sOd_7 (c : COd ops a0 W0 B5 ba oa m cc i u5 xs kb) : Stp Try.prog ops Q a0 (KOd W0 B5 ba oa m cc i u5 xs kb) (IOd W0 B5 ba oa m cc i u5 xs kb) 7 := stp_not (huOd c) (hOd_7 c) rfl (by rw [c.hz]; decide) fun l a W hF hn hd => ⟨hF.unwant (k := 2) (b := true) rfl (hOd_2 c) rfl (hd.at 2 (by rfl)) (fun v h => h), trivial, hF.inv⟩
theorem sOd_8 (c : COd ops a0 W0 B5 ba oa m cc i u5 xs kb) : Stp Try.prog ops Q a0 (KOd W0 B5 ba oa m cc i u5 xs kb) (IOd W0 B5 ba oa m cc i u5 xs kb) 8 := stp_not (huOd c) (hOd_8 c) rfl (by rw [c.hz]; decide) fun l a W hF hn hd => ⟨hF.unwant (k := 2) (b := true) rfl (hOd_2 c) rfl (hd.at 2 (by rfl)) (fun v h => h), trivial, hF.inv⟩
theorem sOd_9 (c : COd ops a0 W0 B5 ba oa m cc i u5 xs kb) : Stp Try.prog ops Q a0 (KOd W0 B5 ba oa m cc i u5 xs kb) (IOd W0 B5 ba oa m cc i u5 xs kb) 9 := stp_not (huOd c) (hOd_9 c) rfl (by rw [c.hz]; decide) fun l a W hF hn hd => ⟨hF.unwant (k := 2) (b := true) rfl (hOd_2 c) rfl (hd.at 2 (by rfl)) (fun v h => h), trivial, hF.inv⟩
theorem sOd_10 (c : COd ops a0 W0 B5 ba oa m cc i u5 xs kb) : Stp Try.prog ops Q a0 (KOd W0 B5 ba oa m cc i u5 xs kb) (IOd W0 B5 ba oa m cc i u5 xs kb) 10 := stp_not (huOd c) (hOd_10 c) rfl (by rw [c.hz]; decide) fun l a W hF hn hd => ⟨hF.unwant (k := 2) (b := true) rfl (hOd_2 c) rfl (hd.at 2 (by rfl)) (fun v h => h), trivial, hF.inv⟩
theorem sOd_11 (c : COd ops a0 W0 B5 ba oa m cc i u5 xs kb) : Stp Try.prog ops Q a0 (KOd W0 B5 ba oa m cc i u5 xs kb) (IOd W0 B5 ba oa m cc i u5 xs kb) 11 := stp_not (huOd c) (hOd_11 c) rfl (by rw [c.hz]; decide) fun l a W hF hn hd => ⟨hF.unwant (k := 2) (b := true) rfl (hOd_2 c) rfl (hd.at 2 (by rfl)) (fun v h => h), trivial, hF.inv⟩
theorem sOd_12 (c : COd ops a0 W0 B5 ba oa m cc i u5 xs kb) : Stp Try.prog ops Q a0 (KOd W0 B5 ba oa m cc i u5 xs kb) (IOd W0 B5 ba oa m cc i u5 xs kb) 12 := stp_not (huOd c) (hOd_12 c) rfl (by rw [c.hz]; decide) fun l a W hF hn hd => ⟨hF.unwant (k := 2) (b := true) rfl (hOd_2 c) rfl (hd.at 2 (by rfl)) (fun v h => h), trivial, hF.inv⟩
theorem sOd_13 (c : COd ops a0 W0 B5 ba oa m cc i u5 xs kb) : Stp Try.prog ops Q a0 (KOd W0 B5 ba oa m cc i u5 xs kb) (IOd W0 B5 ba oa m cc i u5 xs kb) 13 := stp_not (huOd c) (hOd_13 c) rfl (by rw [c.hz]; decide) fun l a W hF hn hd => ⟨hF.unwant (k := 2) (b := true) rfl (hOd_2 c) rfl (hd.at 2 (by rfl)) (fun v h => h), trivial, hF.inv⟩
theorem sOd_14 (c : COd ops a0 W0 B5 ba oa m cc i u5 xs kb) : Stp Try.prog ops Q a0 (KOd W0 B5 ba oa m cc i u5 xs kb) (IOd W0 B5 ba oa m cc i u5 xs kb) 14 := stp_not (huOd c) (hOd_14 c) rfl (by rw [c.hz]; decide) fun l a W hF hn hd => ⟨hF.unwant (k := 2) (b := true) rfl (hOd_2 c) rfl (hd.at 2 (by rfl)) (fun v h => h), trivial, hF.inv⟩
theorem sOd_15 (c : COd ops a0 W0 B5 ba oa m cc i u5 xs kb) : Stp Try.prog ops Q a0 (KOd W0 B5 ba oa m cc i u5 xs kb) (IOd W0 B5 ba oa m cc i u5 xs kb) 15 := stp_val (huOd c) (hOd_15 c) rfl (by rw [c.hz]; decide) fun l a W hF hn hd => ⟨want_none rfl, by
    have e44 : a.eval (.tmp 44) = .bool false := by obtain ⟨v, e, p⟩ := hF.get (hOd_2 c) rfl (hd.at 2 (by rfl)); exact e.trans p
    obtain ⟨v56, e56, p56⟩ := hF.get (hOd_14 c) rfl (hd.at 14 (by rfl))
    refine ⟨.bool false, W, ?_, rfl, Nx.refl W, hF.inv⟩
    show (execOp a.eval _).run Try.prog W = _
    simp only [execOp, e44, e56]
    simp [go_sem]⟩
theorem sOd_16 (c : COd ops a0 W0 B5 ba oa m cc i u5 xs kb) : Stp Try.prog ops Q a0 (KOd W0 B5 ba oa m cc i u5 xs kb) (IOd W0 B5 ba oa m cc i u5 xs kb) 16 := stp_val (huOd c) (hOd_16 c) rfl (by rw [c.hz]; decide) fun l a W hF hn hd => ⟨want_none rfl, by
    have e57 : a.eval (.tmp 57) = .bool false := by obtain ⟨v, e, p⟩ := hF.get (hOd_15 c) rfl (hd.at 15 (by rfl)); exact e.trans p
    exact ⟨.bool false, W, by show Result.ok (Next.value (a.eval _)) W = _; rw [e57], rfl, Nx.refl W, hF.inv⟩⟩
theorem sOd_17 (c : COd ops a0 W0 B5 ba oa m cc i u5 xs kb) : Stp Try.prog ops Q a0 (KOd W0 B5 ba oa m cc i u5 xs kb) (IOd W0 B5 ba oa m cc i u5 xs kb) 17 := stp_val (huOd c) (hOd_17 c) rfl (by rw [c.hz]; decide) fun l a W hF hn hd => ⟨hF.want (k := 16) (b := false) rfl (hOd_16 c) rfl (hd.at 16 (by rfl)) (fun v h => h), by
    have e5 : a.eval (.tmp 5) = .pointer (some ⟨B5, 0, none⟩) := (hF.old (oOd_5 c)).trans c.z5
    have m := c.b5.at0 hF.inv
    refine ⟨.agg #[.pointer u5], W, ?_, rfl, Nx.refl W, hF.inv⟩
    show (execOp a.eval _).run Try.prog W = _
    simp only [execOp, e5]
    simp [go_sem, m]⟩
theorem sOd_18 (c : COd ops a0 W0 B5 ba oa m cc i u5 xs kb) : Stp Try.prog ops Q a0 (KOd W0 B5 ba oa m cc i u5 xs kb) (IOd W0 B5 ba oa m cc i u5 xs kb) 18 := stp_val (huOd c) (hOd_18 c) rfl (by rw [c.hz]; decide) fun l a W hF hn hd => ⟨hF.want (k := 16) (b := false) rfl (hOd_16 c) rfl (hd.at 16 (by rfl)) (fun v h => h), by
    have e7 : a.eval (.tmp 7) = .slice (some ⟨ba, oa, none⟩) m cc := (hF.old (oOd_7 c)).trans c.z7
    exact ⟨.slice (some ⟨ba, oa, none⟩) m cc, W, by show Result.ok (Next.value (a.eval _)) W = _; rw [e7], rfl, Nx.refl W, hF.inv⟩⟩
theorem sOd_19 (c : COd ops a0 W0 B5 ba oa m cc i u5 xs kb) : Stp Try.prog ops Q a0 (KOd W0 B5 ba oa m cc i u5 xs kb) (IOd W0 B5 ba oa m cc i u5 xs kb) 19 := stp_val (huOd c) (hOd_19 c) rfl (by rw [c.hz]; decide) fun l a W hF hn hd => ⟨hF.want (k := 16) (b := false) rfl (hOd_16 c) rfl (hd.at 16 (by rfl)) (fun v h => h), by
    have e8 : a.eval (.tmp 8) = .int .i64 (i : Int) := (hF.old (oOd_8 c)).trans c.z8
    exact ⟨.int .i64 (i : Int), W, by show Result.ok (Next.value (a.eval _)) W = _; rw [e8], rfl, Nx.refl W, hF.inv⟩⟩
theorem sOd_20 (c : COd ops a0 W0 B5 ba oa m cc i u5 xs kb) : Stp Try.prog ops Q a0 (KOd W0 B5 ba oa m cc i u5 xs kb) (IOd W0 B5 ba oa m cc i u5 xs kb) 20 := stp_val (huOd c) (hOd_20 c) rfl (by rw [c.hz]; decide) fun l a W hF hn hd => ⟨hF.want (k := 16) (b := false) rfl (hOd_16 c) rfl (hd.at 16 (by rfl)) (fun v h => h), by
    have e60 : a.eval (.tmp 60) = .slice (some ⟨ba, oa, none⟩) m cc := by obtain ⟨v, e, p⟩ := hF.get (hOd_18 c) rfl (hd.at 18 (by rfl)); exact e.trans p
    have e61 : a.eval (.tmp 61) = .int .i64 (i : Int) := by obtain ⟨v, e, p⟩ := hF.get (hOd_19 c) rfl (hd.at 19 (by rfl)); exact e.trans p
    have x1 := c.i1; have x2 : (0 : Int) ≤ (i : Int) := Int.natCast_nonneg i; have x3 : ((i : Int) < (m : Int)) := by omega
    refine ⟨.pointer (some ⟨ba, oa + i * 3, none⟩), W, ?_, rfl, Nx.refl W, hF.inv⟩
    show (execOp a.eval _).run Try.prog W = _
    simp only [execOp, e60, e61]
    simp [go_sem, x2, x3]⟩
theorem sOd_21 (c : COd ops a0 W0 B5 ba oa m cc i u5 xs kb) : Stp Try.prog ops Q a0 (KOd W0 B5 ba oa m cc i u5 xs kb) (IOd W0 B5 ba oa m cc i u5 xs kb) 21 := stp_val (huOd c) (hOd_21 c) rfl (by rw [c.hz]; decide) fun l a W hF hn hd => ⟨hF.want (k := 16) (b := false) rfl (hOd_16 c) rfl (hd.at 16 (by rfl)) (fun v h => h), by
    have e62 : a.eval (.tmp 62) = .pointer (some ⟨ba, oa + i * 3, none⟩) := by obtain ⟨v, e, p⟩ := hF.get (hOd_20 c) rfl (hd.at 20 (by rfl)); exact e.trans p
    refine ⟨.pointer (some ⟨ba, oa + i * 3, none⟩), W, ?_, rfl, Nx.refl W, hF.inv⟩
    show (execOp a.eval _).run Try.prog W = _
    simp only [execOp, e62]
    simp [go_sem]⟩
theorem sOd_22 (c : COd ops a0 W0 B5 ba oa m cc i u5 xs kb) : Stp Try.prog ops Q a0 (KOd W0 B5 ba oa m cc i u5 xs kb) (IOd W0 B5 ba oa m cc i u5 xs kb) 22 := stp_val (huOd c) (hOd_22 c) rfl (by rw [c.hz]; decide) fun l a W hF hn hd => ⟨hF.want (k := 16) (b := false) rfl (hOd_16 c) rfl (hd.at 16 (by rfl)) (fun v h => h), by
    have e63 : a.eval (.tmp 63) = .pointer (some ⟨ba, oa + i * 3, none⟩) := by obtain ⟨v, e, p⟩ := hF.get (hOd_21 c) rfl (hd.at 21 (by rfl)); exact e.trans p
    have m := cell_nx c.ki hF.inv
    refine ⟨.string (S kb), W, ?_, rfl, Nx.refl W, hF.inv⟩
    show (execOp a.eval _).run Try.prog W = _
    simp only [execOp, e63]
    simp [go_sem, m]⟩
theorem sOd_23 (c : COd ops a0 W0 B5 ba oa m cc i u5 xs kb) : Stp Try.prog ops Q a0 (KOd W0 B5 ba oa m cc i u5 xs kb) (IOd W0 B5 ba oa m cc i u5 xs kb) 23 := stp_call (huOd c) (hOd_23 c) rfl (by rw [c.hz]; decide) fun l a W hF hn hd => ⟨hF.want (k := 16) (b := false) rfl (hOd_16 c) rfl (hd.at 16 (by rfl)) (fun v h => h), by
    have e59 : a.eval (.tmp 59) = .agg #[.pointer u5] := by obtain ⟨v, e, p⟩ := hF.get (hOd_17 c) rfl (hd.at 17 (by rfl)); exact e.trans p
    have e64 : a.eval (.tmp 64) = .string (S kb) := by obtain ⟨v, e, p⟩ := hF.get (hOd_22 c) rfl (hd.at 22 (by rfl)); exact e.trans p
    refine ⟨25, #[.agg #[.pointer u5], .string (S kb)], _, run_enter rfl (by simp only [List.map_toArray, List.map_cons, List.map_nil, e59, e64]) (eval_func _ _) (enters_of Try.func25 (by kernel_rfl) rfl), tplace_any W _ xs kb (c.t5.nx hF.inv) c.xsn, ?_⟩
    rintro e W' ⟨rfl, hn2⟩; exact ⟨_, rfl, by rw [c.pl]; rfl, hn2, (hF.inv.trans hn2)⟩⟩
theorem sOd_24 (c : COd ops a0 W0 B5 ba oa m cc i u5 xs kb) : Stp Try.prog ops Q a0 (KOd W0 B5 ba oa m cc i u5 xs kb) (IOd W0 B5 ba oa m cc i u5 xs kb) 24 := stp_val (huOd c) (hOd_24 c) rfl (by rw [c.hz]; decide) fun l a W hF hn hd => ⟨hF.want (k := 16) (b := false) rfl (hOd_16 c) rfl (hd.at 16 (by rfl)) (fun v h => h), by
    have e8 : a.eval (.tmp 8) = .int .i64 (i : Int) := (hF.old (oOd_8 c)).trans c.z8
    exact ⟨.int .i64 (i : Int), W, by show Result.ok (Next.value (a.eval _)) W = _; rw [e8], rfl, Nx.refl W, hF.inv⟩⟩
theorem sOd_25 (c : COd ops a0 W0 B5 ba oa m cc i u5 xs kb) : Stp Try.prog ops Q a0 (KOd W0 B5 ba oa m cc i u5 xs kb) (IOd W0 B5 ba oa m cc i u5 xs kb) 25 := stp_val (huOd c) (hOd_25 c) rfl (by rw [c.hz]; decide) fun l a W hF hn hd => ⟨hF.want (k := 16) (b := false) rfl (hOd_16 c) rfl (hd.at 16 (by rfl)) (fun v h => h), by
    have e65 : a.eval (.tmp 65) = .int .i64 (i : Nat) := by obtain ⟨v, e, p⟩ := hF.get (hOd_23 c) rfl (hd.at 23 (by rfl)); exact e.trans p
    have e66 : a.eval (.tmp 66) = .int .i64 (i : Int) := by obtain ⟨v, e, p⟩ := hF.get (hOd_24 c) rfl (hd.at 24 (by rfl)); exact e.trans p
    refine ⟨.bool false, W, ?_, rfl, Nx.refl W, hF.inv⟩
    show (execOp a.eval _).run Try.prog W = _
    simp only [execOp, e65, e66]
    simp [go_sem]⟩
theorem sOd_26 (c : COd ops a0 W0 B5 ba oa m cc i u5 xs kb) : Stp Try.prog ops Q a0 (KOd W0 B5 ba oa m cc i u5 xs kb) (IOd W0 B5 ba oa m cc i u5 xs kb) 26 := stp_val (huOd c) (hOd_26 c) rfl (by rw [c.hz]; decide) fun l a W hF hn hd => ⟨want_none rfl, by
    have e58 : a.eval (.tmp 58) = .bool false := by obtain ⟨v, e, p⟩ := hF.get (hOd_16 c) rfl (hd.at 16 (by rfl)); exact e.trans p
    have e67 : a.eval (.tmp 67) = .bool false := by obtain ⟨v, e, p⟩ := hF.get (hOd_25 c) rfl (hd.at 25 (by rfl)); exact e.trans p
    refine ⟨.bool false, W, ?_, rfl, Nx.refl W, hF.inv⟩
    show (execOp a.eval _).run Try.prog W = _
    simp only [execOp, e58, e67]
    simp [go_sem]⟩
theorem rgOd (c : COd ops a0 W0 B5 ba oa m cc i u5 xs kb) {id : Nat} (fin : ∀ (x42 x43 x44 x45 x46 x47 x48 x49 x50 x51 x52 x53 x54 x55 x56 x57 x58 x59 x60 x61 x62 x63 x64 x65 x66 x67 : Value) (W : World), Nx W0 W → Q .normal { tmps := (((((((((((((((((((((((((((a0.tmps.setIfInBounds 42 x42).setIfInBounds 43 x43).setIfInBounds 44 x44).setIfInBounds 45 x45).setIfInBounds 46 x46).setIfInBounds 47 x47).setIfInBounds 48 x48).setIfInBounds 49 x49).setIfInBounds 50 x50).setIfInBounds 51 x51).setIfInBounds 52 x52).setIfInBounds 53 x53).setIfInBounds 54 x54).setIfInBounds 55 x55).setIfInBounds 56 x56).setIfInBounds 57 x57).setIfInBounds 58 x58).setIfInBounds 59 x59).setIfInBounds 60 x60).setIfInBounds 61 x61).setIfInBounds 62 x62).setIfInBounds 63 x63).setIfInBounds 64 x64).setIfInBounds 65 x65).setIfInBounds 66 x66).setIfInBounds 67 x67).setIfInBounds 68 (.bool false)), defers := a0.defers } W) : (Code.region id ops true).wp Try.prog Q a0 W0 := by
  refine flows (K := (KOd W0 B5 ba oa m cc i u5 xs kb)) (Inv := (IOd W0 B5 ba oa m cc i u5 xs kb)) (by kernel_rfl) (hoOd c) (hnOd c) (Nx.refl W0).drew ⟨⟨⟨⟨⟨⟨⟨⟨⟨⟨⟨⟨⟨⟨⟨⟨⟨⟨⟨⟨⟨⟨⟨⟨⟨⟨⟨trivial, sOd_0 c⟩, sOd_1 c⟩, sOd_2 c⟩, sOd_3 c⟩, sOd_4 c⟩, sOd_5 c⟩, sOd_6 c⟩, sOd_7 c⟩, sOd_8 c⟩, sOd_9 c⟩, sOd_10 c⟩, sOd_11 c⟩, sOd_12 c⟩, sOd_13 c⟩, sOd_14 c⟩, sOd_15 c⟩, sOd_16 c⟩, sOd_17 c⟩, sOd_18 c⟩, sOd_19 c⟩, sOd_20 c⟩, sOd_21 c⟩, sOd_22 c⟩, sOd_23 c⟩, sOd_24 c⟩, sOd_25 c⟩, sOd_26 c⟩ fun l a W hF hl => ?_
  have f := hF.form
  rw [hdOd c] at f
  simp only [List.foldl] at f
  have q68 : a.tmps.getD 68 undef = .bool false := by obtain ⟨v, e, p⟩ := hF.get (hOd_26 c) rfl (hl 26 (by decide)); exact e.trans p
  rw [q68] at f
  rw [f]
  exact fin _ _ _ _ _ _ _ _ _ _ _ _ _ _ _ _ _ _ _ _ _ _ _ _ _ _ W  hF.inv
theorem rgOdL {t0_ t1_ t2_ t3_ t4_ t5_ t6_ t7_ t8_ t9_ t10_ t11_ t12_ t13_ t14_ t15_ t16_ t17_ t18_ t19_ t20_ t21_ t22_ t23_ t24_ t25_ t26_ t27_ t28_ t29_ t30_ t31_ t32_ t33_ t34_ t35_ t36_ t37_ t38_ t39_ t40_ t41_ t42_ t43_ t44_ t45_ t46_ t47_ t48_ t49_ t50_ t51_ t52_ t53_ t54_ t55_ t56_ t57_ t58_ t59_ t60_ t61_ t62_ t63_ t64_ t65_ t66_ t67_ t68_ t69_ t70_ t71_ t72_ t73_ t74_ t75_ t76_ t77_ t78_ t79_ t80_ t81_ t82_ t83_ t84_ t85_ t86_ t87_ t88_ t89_ t90_ t91_ t92_ t93_ t94_ t95_ t96_ t97_ t98_ t99_ t100_ t101_ t102_ t103_ t104_ t105_ t106_ t107_ t108_ t109_ t110_ t111_ t112_ t113_ t114_ t115_ t116_ t117_ t118_ t119_ t120_ t121_ t122_ t123_ t124_ t125_ t126_ t127_ t128_ t129_ t130_ t131_ t132_ t133_ t134_ t135_ t136_ t137_ t138_ t139_ t140_ t141_ t142_ t143_ t144_ t145_ t146_ t147_ t148_ t149_ t150_ t151_ t152_ t153_ t154_ : Value} {d_ : List Deferred} (c : COd ops { tmps := #[t0_, t1_, t2_, t3_, t4_, t5_, t6_, t7_, t8_, t9_, t10_, t11_, t12_, t13_, t14_, t15_, t16_, t17_, t18_, t19_, t20_, t21_, t22_, t23_, t24_, t25_, t26_, t27_, t28_, t29_, t30_, t31_, t32_, t33_, t34_, t35_, t36_, t37_, t38_, t39_, t40_, t41_, t42_, t43_, t44_, t45_, t46_, t47_, t48_, t49_, t50_, t51_, t52_, t53_, t54_, t55_, t56_, t57_, t58_, t59_, t60_, t61_, t62_, t63_, t64_, t65_, t66_, t67_, t68_, t69_, t70_, t71_, t72_, t73_, t74_, t75_, t76_, t77_, t78_, t79_, t80_, t81_, t82_, t83_, t84_, t85_, t86_, t87_, t88_, t89_, t90_, t91_, t92_, t93_, t94_, t95_, t96_, t97_, t98_, t99_, t100_, t101_, t102_, t103_, t104_, t105_, t106_, t107_, t108_, t109_, t110_, t111_, t112_, t113_, t114_, t115_, t116_, t117_, t118_, t119_, t120_, t121_, t122_, t123_, t124_, t125_, t126_, t127_, t128_, t129_, t130_, t131_, t132_, t133_, t134_, t135_, t136_, t137_, t138_, t139_, t140_, t141_, t142_, t143_, t144_, t145_, t146_, t147_, t148_, t149_, t150_, t151_, t152_, t153_, t154_], defers := d_ } W0 B5 ba oa m cc i u5 xs kb) {id : Nat} (fin : ∀ (x42 x43 x44 x45 x46 x47 x48 x49 x50 x51 x52 x53 x54 x55 x56 x57 x58 x59 x60 x61 x62 x63 x64 x65 x66 x67 : Value) (W : World), Nx W0 W → Q .normal { tmps := #[t0_, t1_, t2_, t3_, t4_, t5_, t6_, t7_, t8_, t9_, t10_, t11_, t12_, t13_, t14_, t15_, t16_, t17_, t18_, t19_, t20_, t21_, t22_, t23_, t24_, t25_, t26_, t27_, t28_, t29_, t30_, t31_, t32_, t33_, t34_, t35_, t36_, t37_, t38_, t39_, t40_, t41_, x42, x43, x44, x45, x46, x47, x48, x49, x50, x51, x52, x53, x54, x55, x56, x57, x58, x59, x60, x61, x62, x63, x64, x65, x66, x67, (.bool false), t69_, t70_, t71_, t72_, t73_, t74_, t75_, t76_, t77_, t78_, t79_, t80_, t81_, t82_, t83_, t84_, t85_, t86_, t87_, t88_, t89_, t90_, t91_, t92_, t93_, t94_, t95_, t96_, t97_, t98_, t99_, t100_, t101_, t102_, t103_, t104_, t105_, t106_, t107_, t108_, t109_, t110_, t111_, t112_, t113_, t114_, t115_, t116_, t117_, t118_, t119_, t120_, t121_, t122_, t123_, t124_, t125_, t126_, t127_, t128_, t129_, t130_, t131_, t132_, t133_, t134_, t135_, t136_, t137_, t138_, t139_, t140_, t141_, t142_, t143_, t144_, t145_, t146_, t147_, t148_, t149_, t150_, t151_, t152_, t153_, t154_], defers := d_ } W) : (Code.region id ops true).wp Try.prog Q { tmps := #[t0_, t1_, t2_, t3_, t4_, t5_, t6_, t7_, t8_, t9_, t10_, t11_, t12_, t13_, t14_, t15_, t16_, t17_, t18_, t19_, t20_, t21_, t22_, t23_, t24_, t25_, t26_, t27_, t28_, t29_, t30_, t31_, t32_, t33_, t34_, t35_, t36_, t37_, t38_, t39_, t40_, t41_, t42_, t43_, t44_, t45_, t46_, t47_, t48_, t49_, t50_, t51_, t52_, t53_, t54_, t55_, t56_, t57_, t58_, t59_, t60_, t61_, t62_, t63_, t64_, t65_, t66_, t67_, t68_, t69_, t70_, t71_, t72_, t73_, t74_, t75_, t76_, t77_, t78_, t79_, t80_, t81_, t82_, t83_, t84_, t85_, t86_, t87_, t88_, t89_, t90_, t91_, t92_, t93_, t94_, t95_, t96_, t97_, t98_, t99_, t100_, t101_, t102_, t103_, t104_, t105_, t106_, t107_, t108_, t109_, t110_, t111_, t112_, t113_, t114_, t115_, t116_, t117_, t118_, t119_, t120_, t121_, t122_, t123_, t124_, t125_, t126_, t127_, t128_, t129_, t130_, t131_, t132_, t133_, t134_, t135_, t136_, t137_, t138_, t139_, t140_, t141_, t142_, t143_, t144_, t145_, t146_, t147_, t148_, t149_, t150_, t151_, t152_, t153_, t154_], defers := d_ } W0 := by
  refine rgOd c ?_
  intro x42 x43 x44 x45 x46 x47 x48 x49 x50 x51 x52 x53 x54 x55 x56 x57 x58 x59 x60 x61 x62 x63 x64 x65 x66 x67 W
  have e : (((((((((((((((((((((((((((#[t0_, t1_, t2_, t3_, t4_, t5_, t6_, t7_, t8_, t9_, t10_, t11_, t12_, t13_, t14_, t15_, t16_, t17_, t18_, t19_, t20_, t21_, t22_, t23_, t24_, t25_, t26_, t27_, t28_, t29_, t30_, t31_, t32_, t33_, t34_, t35_, t36_, t37_, t38_, t39_, t40_, t41_, t42_, t43_, t44_, t45_, t46_, t47_, t48_, t49_, t50_, t51_, t52_, t53_, t54_, t55_, t56_, t57_, t58_, t59_, t60_, t61_, t62_, t63_, t64_, t65_, t66_, t67_, t68_, t69_, t70_, t71_, t72_, t73_, t74_, t75_, t76_, t77_, t78_, t79_, t80_, t81_, t82_, t83_, t84_, t85_, t86_, t87_, t88_, t89_, t90_, t91_, t92_, t93_, t94_, t95_, t96_, t97_, t98_, t99_, t100_, t101_, t102_, t103_, t104_, t105_, t106_, t107_, t108_, t109_, t110_, t111_, t112_, t113_, t114_, t115_, t116_, t117_, t118_, t119_, t120_, t121_, t122_, t123_, t124_, t125_, t126_, t127_, t128_, t129_, t130_, t131_, t132_, t133_, t134_, t135_, t136_, t137_, t138_, t139_, t140_, t141_, t142_, t143_, t144_, t145_, t146_, t147_, t148_, t149_, t150_, t151_, t152_, t153_, t154_].setIfInBounds 42 x42).setIfInBounds 43 x43).setIfInBounds 44 x44).setIfInBounds 45 x45).setIfInBounds 46 x46).setIfInBounds 47 x47).setIfInBounds 48 x48).setIfInBounds 49 x49).setIfInBounds 50 x50).setIfInBounds 51 x51).setIfInBounds 52 x52).setIfInBounds 53 x53).setIfInBounds 54 x54).setIfInBounds 55 x55).setIfInBounds 56 x56).setIfInBounds 57 x57).setIfInBounds 58 x58).setIfInBounds 59 x59).setIfInBounds 60 x60).setIfInBounds 61 x61).setIfInBounds 62 x62).setIfInBounds 63 x63).setIfInBounds 64 x64).setIfInBounds 65 x65).setIfInBounds 66 x66).setIfInBounds 67 x67).setIfInBounds 68 (.bool false)) = #[t0_, t1_, t2_, t3_, t4_, t5_, t6_, t7_, t8_, t9_, t10_, t11_, t12_, t13_, t14_, t15_, t16_, t17_, t18_, t19_, t20_, t21_, t22_, t23_, t24_, t25_, t26_, t27_, t28_, t29_, t30_, t31_, t32_, t33_, t34_, t35_, t36_, t37_, t38_, t39_, t40_, t41_, x42, x43, x44, x45, x46, x47, x48, x49, x50, x51, x52, x53, x54, x55, x56, x57, x58, x59, x60, x61, x62, x63, x64, x65, x66, x67, (.bool false), t69_, t70_, t71_, t72_, t73_, t74_, t75_, t76_, t77_, t78_, t79_, t80_, t81_, t82_, t83_, t84_, t85_, t86_, t87_, t88_, t89_, t90_, t91_, t92_, t93_, t94_, t95_, t96_, t97_, t98_, t99_, t100_, t101_, t102_, t103_, t104_, t105_, t106_, t107_, t108_, t109_, t110_, t111_, t112_, t113_, t114_, t115_, t116_, t117_, t118_, t119_, t120_, t121_, t122_, t123_, t124_, t125_, t126_, t127_, t128_, t129_, t130_, t131_, t132_, t133_, t134_, t135_, t136_, t137_, t138_, t139_, t140_, t141_, t142_, t143_, t144_, t145_, t146_, t147_, t148_, t149_, t150_, t151_, t152_, t153_, t154_] := by kernel_rfl
  have f := fin x42 x43 x44 x45 x46 x47 x48 x49 x50 x51 x52 x53 x54 x55 x56 x57 x58 x59 x60 x61 x62 x63 x64 x65 x66 x67 W
  rw [← e] at f
  exact f
end
section
variable {ops : Array Oper} {a0 : Act} {W0 : World} {Q : Exit → Act → World → Prop} {B5 ba oa m cc i j : Nat} {u5 : Option Addr} {xs : List KV} {ka kb : Str}
structure COc (ops : Array Oper) (a0 : Act) (W0 : World) (B5 ba oa m cc i j : Nat) (u5 : Option Addr) (xs : List KV) (ka kb : Str) : Prop where
  hops : rops Try.f6 10 = ops
  hz : a0.tmps.size = 155
  z5 : a0.eval (.tmp 5) = .pointer (some ⟨B5, 0, none⟩)
  z7 : a0.eval (.tmp 7) = .slice (some ⟨ba, oa, none⟩) m cc
  z8 : a0.eval (.tmp 8) = .int .i64 (i : Int)
  b5 : BlkIs W0 B5 24 #[.pointer u5]
  t5 : Tb W0 (.agg #[.pointer u5]) xs
  xsn : xs.length ≤ 100000000
  i1 : i < m
  ki : W0.cell? ⟨ba, oa + i * 3, none⟩ = some (.string (S kb))
  pl : place kb xs = i
  j1 : j < m
  kj : W0.cell? ⟨ba, oa + j * 3, none⟩ = some (.string (S ka))
  lk : lt ka kb = true
  ij : i = j + 1
  mm : m ≤ 100000000
def KOc (W0 : World) (B5 ba oa m cc i j : Nat) (u5 : Option Addr) (xs : List KV) (ka kb : Str) : List Kd := [Kd.eq (.int .i64 (i : Int)), Kd.eq (.bool true), Kd.eq (.bool true), Kd.eq (.slice (some ⟨ba, oa, none⟩) m cc), Kd.eq (.int .i64 (i : Int)), Kd.eq (.int .i64 (j : Int)), Kd.eq (.pointer (some ⟨ba, oa + j * 3, none⟩)), Kd.eq (.pointer (some ⟨ba, oa + j * 3, none⟩)), Kd.eq (.string (S ka)), Kd.eq (.slice (some ⟨ba, oa, none⟩) m cc), Kd.eq (.int .i64 (i : Int)), Kd.eq (.pointer (some ⟨ba, oa + i * 3, none⟩)), Kd.eq (.pointer (some ⟨ba, oa + i * 3, none⟩)), Kd.eq (.string (S kb)), Kd.eq (.bool false), Kd.eq (.bool false), Kd.eq (.bool false), Kd.eq (.agg #[.pointer u5]), Kd.eq (.slice (some ⟨ba, oa, none⟩) m cc), Kd.eq (.int .i64 (i : Int)), Kd.eq (.pointer (some ⟨ba, oa + i * 3, none⟩)), Kd.eq (.pointer (some ⟨ba, oa + i * 3, none⟩)), Kd.eq (.string (S kb)), Kd.eq (.int .i64 (i : Nat)), Kd.eq (.int .i64 (i : Int)), Kd.eq (.bool false), Kd.eq (.bool false)]
/-- What is kept. -/
abbrev IOc (W0 : World) (B5 ba oa m cc i j : Nat) (u5 : Option Addr) (xs : List KV) (ka kb : Str) : Array Bool → World → Prop := (fun _ W => Nx W0 W)
theorem hOc_0 (c : COc ops a0 W0 B5 ba oa m cc i j u5 xs ka kb) : ops[0]? = some { dst := some 42, op := .move (.tmp 8), type := 3, pos := "law.go:118", after := #[], guard := none } := by rw [← c.hops]; rfl
theorem hOc_1 (c : COc ops a0 W0 B5 ba oa m cc i j u5 xs ka kb) : ops[1]? = some { dst := some 43, op := .binOp .gtr 3 (.tmp 42) (.const (.int .i64 0)) 3, type := 4, pos := "law.go:118", after := #[{ on := 0, ground := .data }], guard := none } := by rw [← c.hops]; rfl
theorem hOc_2 (c : COc ops a0 W0 B5 ba oa m cc i j u5 xs ka kb) : ops[2]? = some { dst := some 44, op := .move (.tmp 43), type := 4, pos := "law.go:118", after := #[{ on := 1, ground := .data }], guard := none } := by rw [← c.hops]; rfl
theorem hOc_3 (c : COc ops a0 W0 B5 ba oa m cc i j u5 xs ka kb) : ops[3]? = some { dst := some 45, op := .move (.tmp 7), type := 33, pos := "law.go:118", after := #[{ on := 2, ground := .guard }], guard := some (2, true) } := by rw [← c.hops]; rfl
theorem hOc_4 (c : COc ops a0 W0 B5 ba oa m cc i j u5 xs ka kb) : ops[4]? = some { dst := some 46, op := .move (.tmp 8), type := 3, pos := "law.go:118", after := #[{ on := 2, ground := .guard }], guard := some (2, true) } := by rw [← c.hops]; rfl
theorem hOc_5 (c : COc ops a0 W0 B5 ba oa m cc i j u5 xs ka kb) : ops[5]? = some { dst := some 47, op := .binOp .sub 3 (.tmp 46) (.const (.int .i64 1)) 3, type := 3, pos := "law.go:118", after := #[{ on := 4, ground := .data }, { on := 2, ground := .guard }], guard := some (2, true) } := by rw [← c.hops]; rfl
theorem hOc_6 (c : COc ops a0 W0 B5 ba oa m cc i j u5 xs ka kb) : ops[6]? = some { dst := some 48, op := .indexAddr 33 (.tmp 45) (.tmp 47), type := 0, pos := "law.go:118", after := #[{ on := 3, ground := .data }, { on := 5, ground := .data }, { on := 2, ground := .guard }], guard := some (2, true) } := by rw [← c.hops]; rfl
theorem hOc_7 (c : COc ops a0 W0 B5 ba oa m cc i j u5 xs ka kb) : ops[7]? = some { dst := some 49, op := .fieldAddr 40 (.tmp 48) 0, type := 0, pos := "law.go:118", after := #[{ on := 6, ground := .data }, { on := 2, ground := .guard }], guard := some (2, true) } := by rw [← c.hops]; rfl
theorem hOc_8 (c : COc ops a0 W0 B5 ba oa m cc i j u5 xs ka kb) : ops[8]? = some { dst := some 50, op := .load 9 (.tmp 49), type := 9, pos := "law.go:118", after := #[{ on := 7, ground := .data }, { on := 2, ground := .guard }], guard := some (2, true) } := by rw [← c.hops]; rfl
theorem hOc_9 (c : COc ops a0 W0 B5 ba oa m cc i j u5 xs ka kb) : ops[9]? = some { dst := some 51, op := .move (.tmp 7), type := 33, pos := "law.go:118", after := #[{ on := 2, ground := .guard }], guard := some (2, true) } := by rw [← c.hops]; rfl
theorem hOc_10 (c : COc ops a0 W0 B5 ba oa m cc i j u5 xs ka kb) : ops[10]? = some { dst := some 52, op := .move (.tmp 8), type := 3, pos := "law.go:118", after := #[{ on := 2, ground := .guard }], guard := some (2, true) } := by rw [← c.hops]; rfl
theorem hOc_11 (c : COc ops a0 W0 B5 ba oa m cc i j u5 xs ka kb) : ops[11]? = some { dst := some 53, op := .indexAddr 33 (.tmp 51) (.tmp 52), type := 0, pos := "law.go:118", after := #[{ on := 9, ground := .data }, { on := 10, ground := .data }, { on := 2, ground := .guard }], guard := some (2, true) } := by rw [← c.hops]; rfl
theorem hOc_12 (c : COc ops a0 W0 B5 ba oa m cc i j u5 xs ka kb) : ops[12]? = some { dst := some 54, op := .fieldAddr 40 (.tmp 53) 0, type := 0, pos := "law.go:118", after := #[{ on := 11, ground := .data }, { on := 2, ground := .guard }], guard := some (2, true) } := by rw [← c.hops]; rfl
theorem hOc_13 (c : COc ops a0 W0 B5 ba oa m cc i j u5 xs ka kb) : ops[13]? = some { dst := some 55, op := .load 9 (.tmp 54), type := 9, pos := "law.go:118", after := #[{ on := 12, ground := .data }, { on := 2, ground := .guard }], guard := some (2, true) } := by rw [← c.hops]; rfl
theorem hOc_14 (c : COc ops a0 W0 B5 ba oa m cc i j u5 xs ka kb) : ops[14]? = some { dst := some 56, op := .binOp .geq 9 (.tmp 50) (.tmp 55) 9, type := 4, pos := "law.go:118", after := #[{ on := 8, ground := .data }, { on := 13, ground := .data }, { on := 2, ground := .guard }], guard := some (2, true) } := by rw [← c.hops]; rfl
theorem hOc_15 (c : COc ops a0 W0 B5 ba oa m cc i j u5 xs ka kb) : ops[15]? = some { dst := some 57, op := .pick (.tmp 44) (.tmp 56) (.const (.bool false)), type := 4, pos := "law.go:118", after := #[{ on := 2, ground := .data }, { on := 14, ground := .data }], guard := none } := by rw [← c.hops]; rfl
theorem hOc_16 (c : COc ops a0 W0 B5 ba oa m cc i j u5 xs ka kb) : ops[16]? = some { dst := some 58, op := .move (.tmp 57), type := 4, pos := "law.go:118", after := #[{ on := 15, ground := .data }, { on := 2, ground := .chain }], guard := none } := by rw [← c.hops]; rfl
theorem hOc_17 (c : COc ops a0 W0 B5 ba oa m cc i j u5 xs ka kb) : ops[17]? = some { dst := some 59, op := .load 24 (.tmp 5), type := 24, pos := "law.go:118", after := #[{ on := 16, ground := .guard }], guard := some (16, false) } := by rw [← c.hops]; rfl
theorem hOc_18 (c : COc ops a0 W0 B5 ba oa m cc i j u5 xs ka kb) : ops[18]? = some { dst := some 60, op := .move (.tmp 7), type := 33, pos := "law.go:118", after := #[{ on := 16, ground := .guard }], guard := some (16, false) } := by rw [← c.hops]; rfl
theorem hOc_19 (c : COc ops a0 W0 B5 ba oa m cc i j u5 xs ka kb) : ops[19]? = some { dst := some 61, op := .move (.tmp 8), type := 3, pos := "law.go:118", after := #[{ on := 16, ground := .guard }], guard := some (16, false) } := by rw [← c.hops]; rfl
theorem hOc_20 (c : COc ops a0 W0 B5 ba oa m cc i j u5 xs ka kb) : ops[20]? = some { dst := some 62, op := .indexAddr 33 (.tmp 60) (.tmp 61), type := 0, pos := "law.go:118", after := #[{ on := 18, ground := .data }, { on := 19, ground := .data }, { on := 16, ground := .guard }], guard := some (16, false) } := by rw [← c.hops]; rfl
theorem hOc_21 (c : COc ops a0 W0 B5 ba oa m cc i j u5 xs ka kb) : ops[21]? = some { dst := some 63, op := .fieldAddr 40 (.tmp 62) 0, type := 0, pos := "law.go:118", after := #[{ on := 20, ground := .data }, { on := 16, ground := .guard }], guard := some (16, false) } := by rw [← c.hops]; rfl
theorem hOc_22 (c : COc ops a0 W0 B5 ba oa m cc i j u5 xs ka kb) : ops[22]? = some { dst := some 64, op := .load 9 (.tmp 63), type := 9, pos := "law.go:118", after := #[{ on := 21, ground := .data }, { on := 16, ground := .guard }], guard := some (16, false) } := by rw [← c.hops]; rfl
theorem hOc_23 (c : COc ops a0 W0 B5 ba oa m cc i j u5 xs ka kb) : ops[23]? = some { dst := some 65, op := .call { callee := .value (.func 25), args := #[.tmp 59, .tmp 64], argTypes := #[24, 9] }, type := 3, pos := "law.go:118", after := #[{ on := 17, ground := .data }, { on := 22, ground := .data }, { on := 16, ground := .chain }, { on := 16, ground := .guard }], guard := some (16, false) } := by rw [← c.hops]; rfl
theorem hOc_24 (c : COc ops a0 W0 B5 ba oa m cc i j u5 xs ka kb) : ops[24]? = some { dst := some 66, op := .move (.tmp 8), type := 3, pos := "law.go:118", after := #[{ on := 16, ground := .guard }], guard := some (16, false) } := by rw [← c.hops]; rfl
theorem hOc_25 (c : COc ops a0 W0 B5 ba oa m cc i j u5 xs ka kb) : ops[25]? = some { dst := some 67, op := .binOp .neq 3 (.tmp 65) (.tmp 66) 3, type := 4, pos := "law.go:118", after := #[{ on := 23, ground := .data }, { on := 24, ground := .data }, { on := 16, ground := .guard }], guard := some (16, false) } := by rw [← c.hops]; rfl
theorem hOc_26 (c : COc ops a0 W0 B5 ba oa m cc i j u5 xs ka kb) : ops[26]? = some { dst := some 68, op := .pick (.tmp 58) (.const (.bool true)) (.tmp 67), type := 4, pos := "law.go:118", after := #[{ on := 16, ground := .data }, { on := 25, ground := .data }], guard := none } := by rw [← c.hops]; rfl
theorem huOc (c : COc ops a0 W0 B5 ba oa m cc i j u5 xs ka kb) : dstB ops = true := by rw [← c.hops]; kernel_rfl
theorem hoOc (c : COc ops a0 W0 B5 ba oa m cc i j u5 xs ka kb) : ordB ops = true := by rw [← c.hops]; kernel_rfl
theorem hnOc (c : COc ops a0 W0 B5 ba oa m cc i j u5 xs ka kb) : ops.size = 27 := by rw [← c.hops]; rfl
theorem hdOc (c : COc ops a0 W0 B5 ba oa m cc i j u5 xs ka kb) : dsts ops = [42, 43, 44, 45, 46, 47, 48, 49, 50, 51, 52, 53, 54, 55, 56, 57, 58, 59, 60, 61, 62, 63, 64, 65, 66, 67, 68] := by rw [← c.hops]; rfl
theorem oOc_5 (c : COc ops a0 W0 B5 ba oa m cc i j u5 xs ka kb) : oldB ops 5 = true := by rw [← c.hops]; kernel_rfl
theorem oOc_7 (c : COc ops a0 W0 B5 ba oa m cc i j u5 xs ka kb) : oldB ops 7 = true := by rw [← c.hops]; kernel_rfl
theorem oOc_8 (c : COc ops a0 W0 B5 ba oa m cc i j u5 xs ka kb) : oldB ops 8 = true := by rw [← c.hops]; kernel_rfl
theorem sOc_0 (c : COc ops a0 W0 B5 ba oa m cc i j u5 xs ka kb) : Stp Try.prog ops Q a0 (KOc W0 B5 ba oa m cc i j u5 xs ka kb) (IOc W0 B5 ba oa m cc i j u5 xs ka kb) 0 := stp_val (huOc c) (hOc_0 c) rfl (by rw [c.hz]; decide) fun l a W hF hn hd => ⟨want_none rfl, by
    have e8 : a.eval (.tmp 8) = .int .i64 (i : Int) := (hF.old (oOc_8 c)).trans c.z8
    exact ⟨.int .i64 (i : Int), W, by show Result.ok (Next.value (a.eval _)) W = _; rw [e8], rfl, Nx.refl W, hF.inv⟩⟩
theorem sOc_1 (c : COc ops a0 W0 B5 ba oa m cc i j u5 xs ka kb) : Stp Try.prog ops Q a0 (KOc W0 B5 ba oa m cc i j u5 xs ka kb) (IOc W0 B5 ba oa m cc i j u5 xs ka kb) 1 := stp_val (huOc c) (hOc_1 c) rfl (by rw [c.hz]; decide) fun l a W hF hn hd => ⟨want_none rfl, by
    have e42 : a.eval (.tmp 42) = .int .i64 (i : Int) := by obtain ⟨v, e, p⟩ := hF.get (hOc_0 c) rfl (hd.at 0 (by rfl)); exact e.trans p
    have q := c.ij
    refine ⟨.bool true, W, ?_, rfl, Nx.refl W, hF.inv⟩
    show (execOp a.eval _).run Try.prog W = _
    simp only [execOp, e42]
    simp [go_sem, q]⟩
theorem sOc_2 (c : COc ops a0 W0 B5 ba oa m cc i j u5 xs ka kb) : Stp Try.prog ops Q a0 (KOc W0 B5 ba oa m cc i j u5 xs ka kb) (IOc W0 B5 ba oa m cc i j u5 xs ka kb) 2 := stp_val (huOc c) (hOc_2 c) rfl (by rw [c.hz]; decide) fun l a W hF hn hd => ⟨want_none rfl, by
    have e43 : a.eval (.tmp 43) = .bool true := by obtain ⟨v, e, p⟩ := hF.get (hOc_1 c) rfl (hd.at 1 (by rfl)); exact e.trans p
    exact ⟨.bool true, W, by show Result.ok (Next.value (a.eval _)) W = _; rw [e43], rfl, Nx.refl W, hF.inv⟩⟩
theorem sOc_3 (c : COc ops a0 W0 B5 ba oa m cc i j u5 xs ka kb) : Stp Try.prog ops Q a0 (KOc W0 B5 ba oa m cc i j u5 xs ka kb) (IOc W0 B5 ba oa m cc i j u5 xs ka kb) 3 := stp_val (huOc c) (hOc_3 c) rfl (by rw [c.hz]; decide) fun l a W hF hn hd => ⟨hF.want (k := 2) (b := true) rfl (hOc_2 c) rfl (hd.at 2 (by rfl)) (fun v h => h), by
    have e7 : a.eval (.tmp 7) = .slice (some ⟨ba, oa, none⟩) m cc := (hF.old (oOc_7 c)).trans c.z7
    exact ⟨.slice (some ⟨ba, oa, none⟩) m cc, W, by show Result.ok (Next.value (a.eval _)) W = _; rw [e7], rfl, Nx.refl W, hF.inv⟩⟩
theorem sOc_4 (c : COc ops a0 W0 B5 ba oa m cc i j u5 xs ka kb) : Stp Try.prog ops Q a0 (KOc W0 B5 ba oa m cc i j u5 xs ka kb) (IOc W0 B5 ba oa m cc i j u5 xs ka kb) 4 := stp_val (huOc c) (hOc_4 c) rfl (by rw [c.hz]; decide) fun l a W hF hn hd => ⟨hF.want (k := 2) (b := true) rfl (hOc_2 c) rfl (hd.at 2 (by rfl)) (fun v h => h), by
    have e8 : a.eval (.tmp 8) = .int .i64 (i : Int) := (hF.old (oOc_8 c)).trans c.z8
    exact ⟨.int .i64 (i : Int), W, by show Result.ok (Next.value (a.eval _)) W = _; rw [e8], rfl, Nx.refl W, hF.inv⟩⟩
theorem sOc_5 (c : COc ops a0 W0 B5 ba oa m cc i j u5 xs ka kb) : Stp Try.prog ops Q a0 (KOc W0 B5 ba oa m cc i j u5 xs ka kb) (IOc W0 B5 ba oa m cc i j u5 xs ka kb) 5 := stp_val (huOc c) (hOc_5 c) rfl (by rw [c.hz]; decide) fun l a W hF hn hd => ⟨hF.want (k := 2) (b := true) rfl (hOc_2 c) rfl (hd.at 2 (by rfl)) (fun v h => h), by
    have e46 : a.eval (.tmp 46) = .int .i64 (i : Int) := by obtain ⟨v, e, p⟩ := hF.get (hOc_4 c) rfl (hd.at 4 (by rfl)); exact e.trans p
    have q := c.ij; have q2 : IntKind.i64.wrap ((i : Int) - 1) = (j : Int) := by (rw [IntWalk.i64_in _ (by have := c.i1; have := c.mm; omega)]; omega)
    refine ⟨.int .i64 (j : Int), W, ?_, rfl, Nx.refl W, hF.inv⟩
    show (execOp a.eval _).run Try.prog W = _
    simp only [execOp, e46]
    simp [go_sem, q2]⟩
theorem sOc_6 (c : COc ops a0 W0 B5 ba oa m cc i j u5 xs ka kb) : Stp Try.prog ops Q a0 (KOc W0 B5 ba oa m cc i j u5 xs ka kb) (IOc W0 B5 ba oa m cc i j u5 xs ka kb) 6 := stp_val (huOc c) (hOc_6 c) rfl (by rw [c.hz]; decide) fun l a W hF hn hd => ⟨hF.want (k := 2) (b := true) rfl (hOc_2 c) rfl (hd.at 2 (by rfl)) (fun v h => h), by
    have e45 : a.eval (.tmp 45) = .slice (some ⟨ba, oa, none⟩) m cc := by obtain ⟨v, e, p⟩ := hF.get (hOc_3 c) rfl (hd.at 3 (by rfl)); exact e.trans p
    have e47 : a.eval (.tmp 47) = .int .i64 (j : Int) := by obtain ⟨v, e, p⟩ := hF.get (hOc_5 c) rfl (hd.at 5 (by rfl)); exact e.trans p
    have x1 := c.j1; have x2 : (0 : Int) ≤ (j : Int) := Int.natCast_nonneg j; have x3 : ((j : Int) < (m : Int)) := by omega
    refine ⟨.pointer (some ⟨ba, oa + j * 3, none⟩), W, ?_, rfl, Nx.refl W, hF.inv⟩
    show (execOp a.eval _).run Try.prog W = _
    simp only [execOp, e45, e47]
    simp [go_sem, x2, x3]⟩
theorem sOc_7 (c : COc ops a0 W0 B5 ba oa m cc i j u5 xs ka kb) : Stp Try.prog ops Q a0 (KOc W0 B5 ba oa m cc i j u5 xs ka kb) (IOc W0 B5 ba oa m cc i j u5 xs ka kb) 7 := stp_val (huOc c) (hOc_7 c) rfl (by rw [c.hz]; decide) fun l a W hF hn hd => ⟨hF.want (k := 2) (b := true) rfl (hOc_2 c) rfl (hd.at 2 (by rfl)) (fun v h => h), by
    have e48 : a.eval (.tmp 48) = .pointer (some ⟨ba, oa + j * 3, none⟩) := by obtain ⟨v, e, p⟩ := hF.get (hOc_6 c) rfl (hd.at 6 (by rfl)); exact e.trans p
    refine ⟨.pointer (some ⟨ba, oa + j * 3, none⟩), W, ?_, rfl, Nx.refl W, hF.inv⟩
    show (execOp a.eval _).run Try.prog W = _
    simp only [execOp, e48]
    simp [go_sem]⟩
theorem sOc_8 (c : COc ops a0 W0 B5 ba oa m cc i j u5 xs ka kb) : Stp Try.prog ops Q a0 (KOc W0 B5 ba oa m cc i j u5 xs ka kb) (IOc W0 B5 ba oa m cc i j u5 xs ka kb) 8 := stp_val (huOc c) (hOc_8 c) rfl (by rw [c.hz]; decide) fun l a W hF hn hd => ⟨hF.want (k := 2) (b := true) rfl (hOc_2 c) rfl (hd.at 2 (by rfl)) (fun v h => h), by
    have e49 : a.eval (.tmp 49) = .pointer (some ⟨ba, oa + j * 3, none⟩) := by obtain ⟨v, e, p⟩ := hF.get (hOc_7 c) rfl (hd.at 7 (by rfl)); exact e.trans p
    have m := cell_nx c.kj hF.inv
    refine ⟨.string (S ka), W, ?_, rfl, Nx.refl W, hF.inv⟩
    show (execOp a.eval _).run Try.prog W = _
    simp only [execOp, e49]
    simp [go_sem, m]⟩
theorem sOc_9 (c : COc ops a0 W0 B5 ba oa m cc i j u5 xs ka kb) : Stp Try.prog ops Q a0 (KOc W0 B5 ba oa m cc i j u5 xs ka kb) (IOc W0 B5 ba oa m cc i j u5 xs ka kb) 9 := stp_val (huOc c) (hOc_9 c) rfl (by rw [c.hz]; decide) fun l a W hF hn hd => ⟨hF.want (k := 2) (b := true) rfl (hOc_2 c) rfl (hd.at 2 (by rfl)) (fun v h => h), by
    have e7 : a.eval (.tmp 7) = .slice (some ⟨ba, oa, none⟩) m cc := (hF.old (oOc_7 c)).trans c.z7
    exact ⟨.slice (some ⟨ba, oa, none⟩) m cc, W, by show Result.ok (Next.value (a.eval _)) W = _; rw [e7], rfl, Nx.refl W, hF.inv⟩⟩
theorem sOc_10 (c : COc ops a0 W0 B5 ba oa m cc i j u5 xs ka kb) : Stp Try.prog ops Q a0 (KOc W0 B5 ba oa m cc i j u5 xs ka kb) (IOc W0 B5 ba oa m cc i j u5 xs ka kb) 10 := stp_val (huOc c) (hOc_10 c) rfl (by rw [c.hz]; decide) fun l a W hF hn hd => ⟨hF.want (k := 2) (b := true) rfl (hOc_2 c) rfl (hd.at 2 (by rfl)) (fun v h => h), by
    have e8 : a.eval (.tmp 8) = .int .i64 (i : Int) := (hF.old (oOc_8 c)).trans c.z8
    exact ⟨.int .i64 (i : Int), W, by show Result.ok (Next.value (a.eval _)) W = _; rw [e8], rfl, Nx.refl W, hF.inv⟩⟩
theorem sOc_11 (c : COc ops a0 W0 B5 ba oa m cc i j u5 xs ka kb) : Stp Try.prog ops Q a0 (KOc W0 B5 ba oa m cc i j u5 xs ka kb) (IOc W0 B5 ba oa m cc i j u5 xs ka kb) 11 := stp_val (huOc c) (hOc_11 c) rfl (by rw [c.hz]; decide) fun l a W hF hn hd => ⟨hF.want (k := 2) (b := true) rfl (hOc_2 c) rfl (hd.at 2 (by rfl)) (fun v h => h), by
    have e51 : a.eval (.tmp 51) = .slice (some ⟨ba, oa, none⟩) m cc := by obtain ⟨v, e, p⟩ := hF.get (hOc_9 c) rfl (hd.at 9 (by rfl)); exact e.trans p
    have e52 : a.eval (.tmp 52) = .int .i64 (i : Int) := by obtain ⟨v, e, p⟩ := hF.get (hOc_10 c) rfl (hd.at 10 (by rfl)); exact e.trans p
    have x1 := c.i1; have x2 : (0 : Int) ≤ (i : Int) := Int.natCast_nonneg i; have x3 : ((i : Int) < (m : Int)) := by omega
    refine ⟨.pointer (some ⟨ba, oa + i * 3, none⟩), W, ?_, rfl, Nx.refl W, hF.inv⟩
    show (execOp a.eval _).run Try.prog W = _
    simp only [execOp, e51, e52]
    simp [go_sem, x2, x3]⟩
theorem sOc_12 (c : COc ops a0 W0 B5 ba oa m cc i j u5 xs ka kb) : Stp Try.prog ops Q a0 (KOc W0 B5 ba oa m cc i j u5 xs ka kb) (IOc W0 B5 ba oa m cc i j u5 xs ka kb) 12 := stp_val (huOc c) (hOc_12 c) rfl (by rw [c.hz]; decide) fun l a W hF hn hd => ⟨hF.want (k := 2) (b := true) rfl (hOc_2 c) rfl (hd.at 2 (by rfl)) (fun v h => h), by
    have e53 : a.eval (.tmp 53) = .pointer (some ⟨ba, oa + i * 3, none⟩) := by obtain ⟨v, e, p⟩ := hF.get (hOc_11 c) rfl (hd.at 11 (by rfl)); exact e.trans p
    refine ⟨.pointer (some ⟨ba, oa + i * 3, none⟩), W, ?_, rfl, Nx.refl W, hF.inv⟩
    show (execOp a.eval _).run Try.prog W = _
    simp only [execOp, e53]
    simp [go_sem]⟩
theorem sOc_13 (c : COc ops a0 W0 B5 ba oa m cc i j u5 xs ka kb) : Stp Try.prog ops Q a0 (KOc W0 B5 ba oa m cc i j u5 xs ka kb) (IOc W0 B5 ba oa m cc i j u5 xs ka kb) 13 := stp_val (huOc c) (hOc_13 c) rfl (by rw [c.hz]; decide) fun l a W hF hn hd => ⟨hF.want (k := 2) (b := true) rfl (hOc_2 c) rfl (hd.at 2 (by rfl)) (fun v h => h), by
    have e54 : a.eval (.tmp 54) = .pointer (some ⟨ba, oa + i * 3, none⟩) := by obtain ⟨v, e, p⟩ := hF.get (hOc_12 c) rfl (hd.at 12 (by rfl)); exact e.trans p
    have m := cell_nx c.ki hF.inv
    refine ⟨.string (S kb), W, ?_, rfl, Nx.refl W, hF.inv⟩
    show (execOp a.eval _).run Try.prog W = _
    simp only [execOp, e54]
    simp [go_sem, m]⟩
theorem sOc_14 (c : COc ops a0 W0 B5 ba oa m cc i j u5 xs ka kb) : Stp Try.prog ops Q a0 (KOc W0 B5 ba oa m cc i j u5 xs ka kb) (IOc W0 B5 ba oa m cc i j u5 xs ka kb) 14 := stp_val (huOc c) (hOc_14 c) rfl (by rw [c.hz]; decide) fun l a W hF hn hd => ⟨hF.want (k := 2) (b := true) rfl (hOc_2 c) rfl (hd.at 2 (by rfl)) (fun v h => h), by
    have e50 : a.eval (.tmp 50) = .string (S ka) := by obtain ⟨v, e, p⟩ := hF.get (hOc_8 c) rfl (hd.at 8 (by rfl)); exact e.trans p
    have e55 : a.eval (.tmp 55) = .string (S kb) := by obtain ⟨v, e, p⟩ := hF.get (hOc_13 c) rfl (hd.at 13 (by rfl)); exact e.trans p
    have q : Op.bytesLess (S ka).toList (S kb).toList = true := by (rw [S_lt]; exact c.lk)
    refine ⟨.bool false, W, ?_, rfl, Nx.refl W, hF.inv⟩
    show (execOp a.eval _).run Try.prog W = _
    simp only [execOp, e50, e55]
    simp [go_sem, q]⟩
theorem sOc_15 (c : COc ops a0 W0 B5 ba oa m cc i j u5 xs ka kb) : Stp Try.prog ops Q a0 (KOc W0 B5 ba oa m cc i j u5 xs ka kb) (IOc W0 B5 ba oa m cc i j u5 xs ka kb) 15 := stp_val (huOc c) (hOc_15 c) rfl (by rw [c.hz]; decide) fun l a W hF hn hd => ⟨want_none rfl, by
    have e44 : a.eval (.tmp 44) = .bool true := by obtain ⟨v, e, p⟩ := hF.get (hOc_2 c) rfl (hd.at 2 (by rfl)); exact e.trans p
    have e56 : a.eval (.tmp 56) = .bool false := by obtain ⟨v, e, p⟩ := hF.get (hOc_14 c) rfl (hd.at 14 (by rfl)); exact e.trans p
    refine ⟨.bool false, W, ?_, rfl, Nx.refl W, hF.inv⟩
    show (execOp a.eval _).run Try.prog W = _
    simp only [execOp, e44, e56]
    simp [go_sem]⟩
theorem sOc_16 (c : COc ops a0 W0 B5 ba oa m cc i j u5 xs ka kb) : Stp Try.prog ops Q a0 (KOc W0 B5 ba oa m cc i j u5 xs ka kb) (IOc W0 B5 ba oa m cc i j u5 xs ka kb) 16 := stp_val (huOc c) (hOc_16 c) rfl (by rw [c.hz]; decide) fun l a W hF hn hd => ⟨want_none rfl, by
    have e57 : a.eval (.tmp 57) = .bool false := by obtain ⟨v, e, p⟩ := hF.get (hOc_15 c) rfl (hd.at 15 (by rfl)); exact e.trans p
    exact ⟨.bool false, W, by show Result.ok (Next.value (a.eval _)) W = _; rw [e57], rfl, Nx.refl W, hF.inv⟩⟩
theorem sOc_17 (c : COc ops a0 W0 B5 ba oa m cc i j u5 xs ka kb) : Stp Try.prog ops Q a0 (KOc W0 B5 ba oa m cc i j u5 xs ka kb) (IOc W0 B5 ba oa m cc i j u5 xs ka kb) 17 := stp_val (huOc c) (hOc_17 c) rfl (by rw [c.hz]; decide) fun l a W hF hn hd => ⟨hF.want (k := 16) (b := false) rfl (hOc_16 c) rfl (hd.at 16 (by rfl)) (fun v h => h), by
    have e5 : a.eval (.tmp 5) = .pointer (some ⟨B5, 0, none⟩) := (hF.old (oOc_5 c)).trans c.z5
    have m := c.b5.at0 hF.inv
    refine ⟨.agg #[.pointer u5], W, ?_, rfl, Nx.refl W, hF.inv⟩
    show (execOp a.eval _).run Try.prog W = _
    simp only [execOp, e5]
    simp [go_sem, m]⟩
theorem sOc_18 (c : COc ops a0 W0 B5 ba oa m cc i j u5 xs ka kb) : Stp Try.prog ops Q a0 (KOc W0 B5 ba oa m cc i j u5 xs ka kb) (IOc W0 B5 ba oa m cc i j u5 xs ka kb) 18 := stp_val (huOc c) (hOc_18 c) rfl (by rw [c.hz]; decide) fun l a W hF hn hd => ⟨hF.want (k := 16) (b := false) rfl (hOc_16 c) rfl (hd.at 16 (by rfl)) (fun v h => h), by
    have e7 : a.eval (.tmp 7) = .slice (some ⟨ba, oa, none⟩) m cc := (hF.old (oOc_7 c)).trans c.z7
    exact ⟨.slice (some ⟨ba, oa, none⟩) m cc, W, by show Result.ok (Next.value (a.eval _)) W = _; rw [e7], rfl, Nx.refl W, hF.inv⟩⟩
theorem sOc_19 (c : COc ops a0 W0 B5 ba oa m cc i j u5 xs ka kb) : Stp Try.prog ops Q a0 (KOc W0 B5 ba oa m cc i j u5 xs ka kb) (IOc W0 B5 ba oa m cc i j u5 xs ka kb) 19 := stp_val (huOc c) (hOc_19 c) rfl (by rw [c.hz]; decide) fun l a W hF hn hd => ⟨hF.want (k := 16) (b := false) rfl (hOc_16 c) rfl (hd.at 16 (by rfl)) (fun v h => h), by
    have e8 : a.eval (.tmp 8) = .int .i64 (i : Int) := (hF.old (oOc_8 c)).trans c.z8
    exact ⟨.int .i64 (i : Int), W, by show Result.ok (Next.value (a.eval _)) W = _; rw [e8], rfl, Nx.refl W, hF.inv⟩⟩
theorem sOc_20 (c : COc ops a0 W0 B5 ba oa m cc i j u5 xs ka kb) : Stp Try.prog ops Q a0 (KOc W0 B5 ba oa m cc i j u5 xs ka kb) (IOc W0 B5 ba oa m cc i j u5 xs ka kb) 20 := stp_val (huOc c) (hOc_20 c) rfl (by rw [c.hz]; decide) fun l a W hF hn hd => ⟨hF.want (k := 16) (b := false) rfl (hOc_16 c) rfl (hd.at 16 (by rfl)) (fun v h => h), by
    have e60 : a.eval (.tmp 60) = .slice (some ⟨ba, oa, none⟩) m cc := by obtain ⟨v, e, p⟩ := hF.get (hOc_18 c) rfl (hd.at 18 (by rfl)); exact e.trans p
    have e61 : a.eval (.tmp 61) = .int .i64 (i : Int) := by obtain ⟨v, e, p⟩ := hF.get (hOc_19 c) rfl (hd.at 19 (by rfl)); exact e.trans p
    have x1 := c.i1; have x2 : (0 : Int) ≤ (i : Int) := Int.natCast_nonneg i; have x3 : ((i : Int) < (m : Int)) := by omega
    refine ⟨.pointer (some ⟨ba, oa + i * 3, none⟩), W, ?_, rfl, Nx.refl W, hF.inv⟩
    show (execOp a.eval _).run Try.prog W = _
    simp only [execOp, e60, e61]
    simp [go_sem, x2, x3]⟩
theorem sOc_21 (c : COc ops a0 W0 B5 ba oa m cc i j u5 xs ka kb) : Stp Try.prog ops Q a0 (KOc W0 B5 ba oa m cc i j u5 xs ka kb) (IOc W0 B5 ba oa m cc i j u5 xs ka kb) 21 := stp_val (huOc c) (hOc_21 c) rfl (by rw [c.hz]; decide) fun l a W hF hn hd => ⟨hF.want (k := 16) (b := false) rfl (hOc_16 c) rfl (hd.at 16 (by rfl)) (fun v h => h), by
    have e62 : a.eval (.tmp 62) = .pointer (some ⟨ba, oa + i * 3, none⟩) := by obtain ⟨v, e, p⟩ := hF.get (hOc_20 c) rfl (hd.at 20 (by rfl)); exact e.trans p
    refine ⟨.pointer (some ⟨ba, oa + i * 3, none⟩), W, ?_, rfl, Nx.refl W, hF.inv⟩
    show (execOp a.eval _).run Try.prog W = _
    simp only [execOp, e62]
    simp [go_sem]⟩
theorem sOc_22 (c : COc ops a0 W0 B5 ba oa m cc i j u5 xs ka kb) : Stp Try.prog ops Q a0 (KOc W0 B5 ba oa m cc i j u5 xs ka kb) (IOc W0 B5 ba oa m cc i j u5 xs ka kb) 22 := stp_val (huOc c) (hOc_22 c) rfl (by rw [c.hz]; decide) fun l a W hF hn hd => ⟨hF.want (k := 16) (b := false) rfl (hOc_16 c) rfl (hd.at 16 (by rfl)) (fun v h => h), by
    have e63 : a.eval (.tmp 63) = .pointer (some ⟨ba, oa + i * 3, none⟩) := by obtain ⟨v, e, p⟩ := hF.get (hOc_21 c) rfl (hd.at 21 (by rfl)); exact e.trans p
    have m := cell_nx c.ki hF.inv
    refine ⟨.string (S kb), W, ?_, rfl, Nx.refl W, hF.inv⟩
    show (execOp a.eval _).run Try.prog W = _
    simp only [execOp, e63]
    simp [go_sem, m]⟩
theorem sOc_23 (c : COc ops a0 W0 B5 ba oa m cc i j u5 xs ka kb) : Stp Try.prog ops Q a0 (KOc W0 B5 ba oa m cc i j u5 xs ka kb) (IOc W0 B5 ba oa m cc i j u5 xs ka kb) 23 := stp_call (huOc c) (hOc_23 c) rfl (by rw [c.hz]; decide) fun l a W hF hn hd => ⟨hF.want (k := 16) (b := false) rfl (hOc_16 c) rfl (hd.at 16 (by rfl)) (fun v h => h), by
    have e59 : a.eval (.tmp 59) = .agg #[.pointer u5] := by obtain ⟨v, e, p⟩ := hF.get (hOc_17 c) rfl (hd.at 17 (by rfl)); exact e.trans p
    have e64 : a.eval (.tmp 64) = .string (S kb) := by obtain ⟨v, e, p⟩ := hF.get (hOc_22 c) rfl (hd.at 22 (by rfl)); exact e.trans p
    refine ⟨25, #[.agg #[.pointer u5], .string (S kb)], _, run_enter rfl (by simp only [List.map_toArray, List.map_cons, List.map_nil, e59, e64]) (eval_func _ _) (enters_of Try.func25 (by kernel_rfl) rfl), tplace_any W _ xs kb (c.t5.nx hF.inv) c.xsn, ?_⟩
    rintro e W' ⟨rfl, hn2⟩; exact ⟨_, rfl, by rw [c.pl]; rfl, hn2, (hF.inv.trans hn2)⟩⟩
theorem sOc_24 (c : COc ops a0 W0 B5 ba oa m cc i j u5 xs ka kb) : Stp Try.prog ops Q a0 (KOc W0 B5 ba oa m cc i j u5 xs ka kb) (IOc W0 B5 ba oa m cc i j u5 xs ka kb) 24 := stp_val (huOc c) (hOc_24 c) rfl (by rw [c.hz]; decide) fun l a W hF hn hd => ⟨hF.want (k := 16) (b := false) rfl (hOc_16 c) rfl (hd.at 16 (by rfl)) (fun v h => h), by
    have e8 : a.eval (.tmp 8) = .int .i64 (i : Int) := (hF.old (oOc_8 c)).trans c.z8
    exact ⟨.int .i64 (i : Int), W, by show Result.ok (Next.value (a.eval _)) W = _; rw [e8], rfl, Nx.refl W, hF.inv⟩⟩
theorem sOc_25 (c : COc ops a0 W0 B5 ba oa m cc i j u5 xs ka kb) : Stp Try.prog ops Q a0 (KOc W0 B5 ba oa m cc i j u5 xs ka kb) (IOc W0 B5 ba oa m cc i j u5 xs ka kb) 25 := stp_val (huOc c) (hOc_25 c) rfl (by rw [c.hz]; decide) fun l a W hF hn hd => ⟨hF.want (k := 16) (b := false) rfl (hOc_16 c) rfl (hd.at 16 (by rfl)) (fun v h => h), by
    have e65 : a.eval (.tmp 65) = .int .i64 (i : Nat) := by obtain ⟨v, e, p⟩ := hF.get (hOc_23 c) rfl (hd.at 23 (by rfl)); exact e.trans p
    have e66 : a.eval (.tmp 66) = .int .i64 (i : Int) := by obtain ⟨v, e, p⟩ := hF.get (hOc_24 c) rfl (hd.at 24 (by rfl)); exact e.trans p
    refine ⟨.bool false, W, ?_, rfl, Nx.refl W, hF.inv⟩
    show (execOp a.eval _).run Try.prog W = _
    simp only [execOp, e65, e66]
    simp [go_sem]⟩
theorem sOc_26 (c : COc ops a0 W0 B5 ba oa m cc i j u5 xs ka kb) : Stp Try.prog ops Q a0 (KOc W0 B5 ba oa m cc i j u5 xs ka kb) (IOc W0 B5 ba oa m cc i j u5 xs ka kb) 26 := stp_val (huOc c) (hOc_26 c) rfl (by rw [c.hz]; decide) fun l a W hF hn hd => ⟨want_none rfl, by
    have e58 : a.eval (.tmp 58) = .bool false := by obtain ⟨v, e, p⟩ := hF.get (hOc_16 c) rfl (hd.at 16 (by rfl)); exact e.trans p
    have e67 : a.eval (.tmp 67) = .bool false := by obtain ⟨v, e, p⟩ := hF.get (hOc_25 c) rfl (hd.at 25 (by rfl)); exact e.trans p
    refine ⟨.bool false, W, ?_, rfl, Nx.refl W, hF.inv⟩
    show (execOp a.eval _).run Try.prog W = _
    simp only [execOp, e58, e67]
    simp [go_sem]⟩
theorem rgOc (c : COc ops a0 W0 B5 ba oa m cc i j u5 xs ka kb) {id : Nat} (fin : ∀ (x42 x43 x44 x45 x46 x47 x48 x49 x50 x51 x52 x53 x54 x55 x56 x57 x58 x59 x60 x61 x62 x63 x64 x65 x66 x67 : Value) (W : World), Nx W0 W → Q .normal { tmps := (((((((((((((((((((((((((((a0.tmps.setIfInBounds 42 x42).setIfInBounds 43 x43).setIfInBounds 44 x44).setIfInBounds 45 x45).setIfInBounds 46 x46).setIfInBounds 47 x47).setIfInBounds 48 x48).setIfInBounds 49 x49).setIfInBounds 50 x50).setIfInBounds 51 x51).setIfInBounds 52 x52).setIfInBounds 53 x53).setIfInBounds 54 x54).setIfInBounds 55 x55).setIfInBounds 56 x56).setIfInBounds 57 x57).setIfInBounds 58 x58).setIfInBounds 59 x59).setIfInBounds 60 x60).setIfInBounds 61 x61).setIfInBounds 62 x62).setIfInBounds 63 x63).setIfInBounds 64 x64).setIfInBounds 65 x65).setIfInBounds 66 x66).setIfInBounds 67 x67).setIfInBounds 68 (.bool false)), defers := a0.defers } W) : (Code.region id ops true).wp Try.prog Q a0 W0 := by
  refine flows (K := (KOc W0 B5 ba oa m cc i j u5 xs ka kb)) (Inv := (IOc W0 B5 ba oa m cc i j u5 xs ka kb)) (by kernel_rfl) (hoOc c) (hnOc c) (Nx.refl W0).drew ⟨⟨⟨⟨⟨⟨⟨⟨⟨⟨⟨⟨⟨⟨⟨⟨⟨⟨⟨⟨⟨⟨⟨⟨⟨⟨⟨trivial, sOc_0 c⟩, sOc_1 c⟩, sOc_2 c⟩, sOc_3 c⟩, sOc_4 c⟩, sOc_5 c⟩, sOc_6 c⟩, sOc_7 c⟩, sOc_8 c⟩, sOc_9 c⟩, sOc_10 c⟩, sOc_11 c⟩, sOc_12 c⟩, sOc_13 c⟩, sOc_14 c⟩, sOc_15 c⟩, sOc_16 c⟩, sOc_17 c⟩, sOc_18 c⟩, sOc_19 c⟩, sOc_20 c⟩, sOc_21 c⟩, sOc_22 c⟩, sOc_23 c⟩, sOc_24 c⟩, sOc_25 c⟩, sOc_26 c⟩ fun l a W hF hl => ?_
  have f := hF.form
  rw [hdOc c] at f
  simp only [List.foldl] at f
  have q68 : a.tmps.getD 68 undef = .bool false := by obtain ⟨v, e, p⟩ := hF.get (hOc_26 c) rfl (hl 26 (by decide)); exact e.trans p
  rw [q68] at f
  rw [f]
  exact fin _ _ _ _ _ _ _ _ _ _ _ _ _ _ _ _ _ _ _ _ _ _ _ _ _ _ W  hF.inv
theorem rgOcL {t0_ t1_ t2_ t3_ t4_ t5_ t6_ t7_ t8_ t9_ t10_ t11_ t12_ t13_ t14_ t15_ t16_ t17_ t18_ t19_ t20_ t21_ t22_ t23_ t24_ t25_ t26_ t27_ t28_ t29_ t30_ t31_ t32_ t33_ t34_ t35_ t36_ t37_ t38_ t39_ t40_ t41_ t42_ t43_ t44_ t45_ t46_ t47_ t48_ t49_ t50_ t51_ t52_ t53_ t54_ t55_ t56_ t57_ t58_ t59_ t60_ t61_ t62_ t63_ t64_ t65_ t66_ t67_ t68_ t69_ t70_ t71_ t72_ t73_ t74_ t75_ t76_ t77_ t78_ t79_ t80_ t81_ t82_ t83_ t84_ t85_ t86_ t87_ t88_ t89_ t90_ t91_ t92_ t93_ t94_ t95_ t96_ t97_ t98_ t99_ t100_ t101_ t102_ t103_ t104_ t105_ t106_ t107_ t108_ t109_ t110_ t111_ t112_ t113_ t114_ t115_ t116_ t117_ t118_ t119_ t120_ t121_ t122_ t123_ t124_ t125_ t126_ t127_ t128_ t129_ t130_ t131_ t132_ t133_ t134_ t135_ t136_ t137_ t138_ t139_ t140_ t141_ t142_ t143_ t144_ t145_ t146_ t147_ t148_ t149_ t150_ t151_ t152_ t153_ t154_ : Value} {d_ : List Deferred} (c : COc ops { tmps := #[t0_, t1_, t2_, t3_, t4_, t5_, t6_, t7_, t8_, t9_, t10_, t11_, t12_, t13_, t14_, t15_, t16_, t17_, t18_, t19_, t20_, t21_, t22_, t23_, t24_, t25_, t26_, t27_, t28_, t29_, t30_, t31_, t32_, t33_, t34_, t35_, t36_, t37_, t38_, t39_, t40_, t41_, t42_, t43_, t44_, t45_, t46_, t47_, t48_, t49_, t50_, t51_, t52_, t53_, t54_, t55_, t56_, t57_, t58_, t59_, t60_, t61_, t62_, t63_, t64_, t65_, t66_, t67_, t68_, t69_, t70_, t71_, t72_, t73_, t74_, t75_, t76_, t77_, t78_, t79_, t80_, t81_, t82_, t83_, t84_, t85_, t86_, t87_, t88_, t89_, t90_, t91_, t92_, t93_, t94_, t95_, t96_, t97_, t98_, t99_, t100_, t101_, t102_, t103_, t104_, t105_, t106_, t107_, t108_, t109_, t110_, t111_, t112_, t113_, t114_, t115_, t116_, t117_, t118_, t119_, t120_, t121_, t122_, t123_, t124_, t125_, t126_, t127_, t128_, t129_, t130_, t131_, t132_, t133_, t134_, t135_, t136_, t137_, t138_, t139_, t140_, t141_, t142_, t143_, t144_, t145_, t146_, t147_, t148_, t149_, t150_, t151_, t152_, t153_, t154_], defers := d_ } W0 B5 ba oa m cc i j u5 xs ka kb) {id : Nat} (fin : ∀ (x42 x43 x44 x45 x46 x47 x48 x49 x50 x51 x52 x53 x54 x55 x56 x57 x58 x59 x60 x61 x62 x63 x64 x65 x66 x67 : Value) (W : World), Nx W0 W → Q .normal { tmps := #[t0_, t1_, t2_, t3_, t4_, t5_, t6_, t7_, t8_, t9_, t10_, t11_, t12_, t13_, t14_, t15_, t16_, t17_, t18_, t19_, t20_, t21_, t22_, t23_, t24_, t25_, t26_, t27_, t28_, t29_, t30_, t31_, t32_, t33_, t34_, t35_, t36_, t37_, t38_, t39_, t40_, t41_, x42, x43, x44, x45, x46, x47, x48, x49, x50, x51, x52, x53, x54, x55, x56, x57, x58, x59, x60, x61, x62, x63, x64, x65, x66, x67, (.bool false), t69_, t70_, t71_, t72_, t73_, t74_, t75_, t76_, t77_, t78_, t79_, t80_, t81_, t82_, t83_, t84_, t85_, t86_, t87_, t88_, t89_, t90_, t91_, t92_, t93_, t94_, t95_, t96_, t97_, t98_, t99_, t100_, t101_, t102_, t103_, t104_, t105_, t106_, t107_, t108_, t109_, t110_, t111_, t112_, t113_, t114_, t115_, t116_, t117_, t118_, t119_, t120_, t121_, t122_, t123_, t124_, t125_, t126_, t127_, t128_, t129_, t130_, t131_, t132_, t133_, t134_, t135_, t136_, t137_, t138_, t139_, t140_, t141_, t142_, t143_, t144_, t145_, t146_, t147_, t148_, t149_, t150_, t151_, t152_, t153_, t154_], defers := d_ } W) : (Code.region id ops true).wp Try.prog Q { tmps := #[t0_, t1_, t2_, t3_, t4_, t5_, t6_, t7_, t8_, t9_, t10_, t11_, t12_, t13_, t14_, t15_, t16_, t17_, t18_, t19_, t20_, t21_, t22_, t23_, t24_, t25_, t26_, t27_, t28_, t29_, t30_, t31_, t32_, t33_, t34_, t35_, t36_, t37_, t38_, t39_, t40_, t41_, t42_, t43_, t44_, t45_, t46_, t47_, t48_, t49_, t50_, t51_, t52_, t53_, t54_, t55_, t56_, t57_, t58_, t59_, t60_, t61_, t62_, t63_, t64_, t65_, t66_, t67_, t68_, t69_, t70_, t71_, t72_, t73_, t74_, t75_, t76_, t77_, t78_, t79_, t80_, t81_, t82_, t83_, t84_, t85_, t86_, t87_, t88_, t89_, t90_, t91_, t92_, t93_, t94_, t95_, t96_, t97_, t98_, t99_, t100_, t101_, t102_, t103_, t104_, t105_, t106_, t107_, t108_, t109_, t110_, t111_, t112_, t113_, t114_, t115_, t116_, t117_, t118_, t119_, t120_, t121_, t122_, t123_, t124_, t125_, t126_, t127_, t128_, t129_, t130_, t131_, t132_, t133_, t134_, t135_, t136_, t137_, t138_, t139_, t140_, t141_, t142_, t143_, t144_, t145_, t146_, t147_, t148_, t149_, t150_, t151_, t152_, t153_, t154_], defers := d_ } W0 := by
  refine rgOc c ?_
  intro x42 x43 x44 x45 x46 x47 x48 x49 x50 x51 x52 x53 x54 x55 x56 x57 x58 x59 x60 x61 x62 x63 x64 x65 x66 x67 W
  have e : (((((((((((((((((((((((((((#[t0_, t1_, t2_, t3_, t4_, t5_, t6_, t7_, t8_, t9_, t10_, t11_, t12_, t13_, t14_, t15_, t16_, t17_, t18_, t19_, t20_, t21_, t22_, t23_, t24_, t25_, t26_, t27_, t28_, t29_, t30_, t31_, t32_, t33_, t34_, t35_, t36_, t37_, t38_, t39_, t40_, t41_, t42_, t43_, t44_, t45_, t46_, t47_, t48_, t49_, t50_, t51_, t52_, t53_, t54_, t55_, t56_, t57_, t58_, t59_, t60_, t61_, t62_, t63_, t64_, t65_, t66_, t67_, t68_, t69_, t70_, t71_, t72_, t73_, t74_, t75_, t76_, t77_, t78_, t79_, t80_, t81_, t82_, t83_, t84_, t85_, t86_, t87_, t88_, t89_, t90_, t91_, t92_, t93_, t94_, t95_, t96_, t97_, t98_, t99_, t100_, t101_, t102_, t103_, t104_, t105_, t106_, t107_, t108_, t109_, t110_, t111_, t112_, t113_, t114_, t115_, t116_, t117_, t118_, t119_, t120_, t121_, t122_, t123_, t124_, t125_, t126_, t127_, t128_, t129_, t130_, t131_, t132_, t133_, t134_, t135_, t136_, t137_, t138_, t139_, t140_, t141_, t142_, t143_, t144_, t145_, t146_, t147_, t148_, t149_, t150_, t151_, t152_, t153_, t154_].setIfInBounds 42 x42).setIfInBounds 43 x43).setIfInBounds 44 x44).setIfInBounds 45 x45).setIfInBounds 46 x46).setIfInBounds 47 x47).setIfInBounds 48 x48).setIfInBounds 49 x49).setIfInBounds 50 x50).setIfInBounds 51 x51).setIfInBounds 52 x52).setIfInBounds 53 x53).setIfInBounds 54 x54).setIfInBounds 55 x55).setIfInBounds 56 x56).setIfInBounds 57 x57).setIfInBounds 58 x58).setIfInBounds 59 x59).setIfInBounds 60 x60).setIfInBounds 61 x61).setIfInBounds 62 x62).setIfInBounds 63 x63).setIfInBounds 64 x64).setIfInBounds 65 x65).setIfInBounds 66 x66).setIfInBounds 67 x67).setIfInBounds 68 (.bool false)) = #[t0_, t1_, t2_, t3_, t4_, t5_, t6_, t7_, t8_, t9_, t10_, t11_, t12_, t13_, t14_, t15_, t16_, t17_, t18_, t19_, t20_, t21_, t22_, t23_, t24_, t25_, t26_, t27_, t28_, t29_, t30_, t31_, t32_, t33_, t34_, t35_, t36_, t37_, t38_, t39_, t40_, t41_, x42, x43, x44, x45, x46, x47, x48, x49, x50, x51, x52, x53, x54, x55, x56, x57, x58, x59, x60, x61, x62, x63, x64, x65, x66, x67, (.bool false), t69_, t70_, t71_, t72_, t73_, t74_, t75_, t76_, t77_, t78_, t79_, t80_, t81_, t82_, t83_, t84_, t85_, t86_, t87_, t88_, t89_, t90_, t91_, t92_, t93_, t94_, t95_, t96_, t97_, t98_, t99_, t100_, t101_, t102_, t103_, t104_, t105_, t106_, t107_, t108_, t109_, t110_, t111_, t112_, t113_, t114_, t115_, t116_, t117_, t118_, t119_, t120_, t121_, t122_, t123_, t124_, t125_, t126_, t127_, t128_, t129_, t130_, t131_, t132_, t133_, t134_, t135_, t136_, t137_, t138_, t139_, t140_, t141_, t142_, t143_, t144_, t145_, t146_, t147_, t148_, t149_, t150_, t151_, t152_, t153_, t154_] := by kernel_rfl
  have f := fin x42 x43 x44 x45 x46 x47 x48 x49 x50 x51 x52 x53 x54 x55 x56 x57 x58 x59 x60 x61 x62 x63 x64 x65 x66 x67 W
  rw [← e] at f
  exact f
end
end Go.Proofs.Ytekcphpeaoaaaaa

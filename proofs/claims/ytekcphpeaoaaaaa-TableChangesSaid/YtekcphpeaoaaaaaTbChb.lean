/- Package table: TableChanges, the two tables: a region that draws its order. Made by wip/tools/rg_ch6.py. -/
import Derived.Test.YtekcphpeaoaaaaaTbRg
namespace Go.Proofs.Ytekcphpeaoaaaaa
open Go.RowKit Go.Shelf
set_option linter.unusedVariables false
set_option maxRecDepth 100000
section
variable {ops : Array Oper} {a0 : Act} {W0 : World} {Q : Exit → Act → World → Prop} {B7 B8 : Nat} {v0 v1 : Value} {l0 l1 : List Pr}
structure CCb (ops : Array Oper) (a0 : Act) (W0 : World) (B7 B8 : Nat) (v0 v1 : Value) (l0 l1 : List Pr) : Prop where
  hops : rops Try.f7 6 = ops
  hz : a0.tmps.size = 151
  z7 : a0.eval (.tmp 7) = .pointer (some ⟨B7, 0, none⟩)
  z8 : a0.eval (.tmp 8) = .pointer (some ⟨B8, 0, none⟩)
  z0 : a0.eval (.tmp 0) = v0
  z1 : a0.eval (.tmp 1) = v1
  b7 : BlkIs W0 B7 24 #[.pointer none]
  b8 : BlkIs W0 B8 24 #[.pointer none]
  ne : B7 ≠ B8
  r0 : Rd W0 v0 l0
  r1 : Rd W0 v1 l1
  s0 : ShortP l0
  s1 : ShortP l1
  n0 : l0.length ≤ 1000
  n1 : l1.length ≤ 1000
def KCb (W0 : World) (B7 B8 : Nat) (v0 v1 : Value) (l0 l1 : List Pr) : List Kd := [Kd.eq (.agg #[.pointer none]), Kd.eq (v0), Kd.of (fun v W => Tb W v (acts [] l0)) Tb.nx, Kd.eq (.agg #[.pointer none]), Kd.eq (v1), Kd.of (fun v W => Tb W v (acts [] l1)) Tb.nx, Kd.any, Kd.any]
/-- What is kept. -/
abbrev ICb (W0 : World) (B7 B8 : Nat) (v0 v1 : Value) (l0 l1 : List Pr) : Array Bool → World → Prop := I2 6 7 W0 B7 B8 24 24 (.pointer none) (.pointer none) (fun v W => Tb W v (acts [] l0)) (fun v W => Tb W v (acts [] l1))
theorem hCb_0 (c : CCb ops a0 W0 B7 B8 v0 v1 l0 l1) : ops[0]? = some { dst := some 33, op := .load 24 (.tmp 7), type := 24, pos := "law.go:160", after := #[], guard := none } := by rw [← c.hops]; rfl
theorem hCb_1 (c : CCb ops a0 W0 B7 B8 v0 v1 l0 l1) : ops[1]? = some { dst := some 34, op := .move (.tmp 0), type := 33, pos := "law.go:160", after := #[], guard := none } := by rw [← c.hops]; rfl
theorem hCb_2 (c : CCb ops a0 W0 B7 B8 v0 v1 l0 l1) : ops[2]? = some { dst := some 35, op := .call { callee := .value (.func 36), args := #[.tmp 33, .tmp 34], argTypes := #[24, 33] }, type := 24, pos := "law.go:160", after := #[{ on := 0, ground := .data }, { on := 1, ground := .data }], guard := none } := by rw [← c.hops]; rfl
theorem hCb_3 (c : CCb ops a0 W0 B7 B8 v0 v1 l0 l1) : ops[3]? = some { dst := some 36, op := .load 24 (.tmp 8), type := 24, pos := "law.go:160", after := #[], guard := none } := by rw [← c.hops]; rfl
theorem hCb_4 (c : CCb ops a0 W0 B7 B8 v0 v1 l0 l1) : ops[4]? = some { dst := some 37, op := .move (.tmp 1), type := 33, pos := "law.go:160", after := #[], guard := none } := by rw [← c.hops]; rfl
theorem hCb_5 (c : CCb ops a0 W0 B7 B8 v0 v1 l0 l1) : ops[5]? = some { dst := some 38, op := .call { callee := .value (.func 36), args := #[.tmp 36, .tmp 37], argTypes := #[24, 33] }, type := 24, pos := "law.go:160", after := #[{ on := 3, ground := .data }, { on := 4, ground := .data }, { on := 2, ground := .chain }], guard := none } := by rw [← c.hops]; rfl
theorem hCb_6 (c : CCb ops a0 W0 B7 B8 v0 v1 l0 l1) : ops[6]? = some { dst := none, op := .store 24 (.tmp 7) (.tmp 35), type := 0, pos := "law.go:160", after := #[{ on := 2, ground := .data }, { on := 5, ground := .chain }, { on := 0, ground := .phase }, { on := 1, ground := .phase }, { on := 2, ground := .phase }, { on := 3, ground := .textOnly .lateStores }, { on := 4, ground := .textOnly .lateStores }, { on := 5, ground := .textOnly .lateStoresUnsure }], guard := none } := by rw [← c.hops]; rfl
theorem hCb_7 (c : CCb ops a0 W0 B7 B8 v0 v1 l0 l1) : ops[7]? = some { dst := none, op := .store 24 (.tmp 8) (.tmp 38), type := 0, pos := "law.go:160", after := #[{ on := 5, ground := .data }, { on := 6, ground := .chain }, { on := 0, ground := .phase }, { on := 1, ground := .phase }, { on := 2, ground := .phase }, { on := 3, ground := .phase }, { on := 4, ground := .phase }, { on := 5, ground := .phase }, { on := 6, ground := .phase }], guard := none } := by rw [← c.hops]; rfl
theorem huCb (c : CCb ops a0 W0 B7 B8 v0 v1 l0 l1) : dstB ops = true := by rw [← c.hops]; kernel_rfl
theorem hoCb (c : CCb ops a0 W0 B7 B8 v0 v1 l0 l1) : ordB ops = true := by rw [← c.hops]; kernel_rfl
theorem hnCb (c : CCb ops a0 W0 B7 B8 v0 v1 l0 l1) : ops.size = 8 := by rw [← c.hops]; rfl
theorem hdCb (c : CCb ops a0 W0 B7 B8 v0 v1 l0 l1) : dsts ops = [33, 34, 35, 36, 37, 38] := by rw [← c.hops]; rfl
theorem oCb_7 (c : CCb ops a0 W0 B7 B8 v0 v1 l0 l1) : oldB ops 7 = true := by rw [← c.hops]; kernel_rfl
theorem oCb_8 (c : CCb ops a0 W0 B7 B8 v0 v1 l0 l1) : oldB ops 8 = true := by rw [← c.hops]; kernel_rfl
theorem oCb_0 (c : CCb ops a0 W0 B7 B8 v0 v1 l0 l1) : oldB ops 0 = true := by rw [← c.hops]; kernel_rfl
theorem oCb_1 (c : CCb ops a0 W0 B7 B8 v0 v1 l0 l1) : oldB ops 1 = true := by rw [← c.hops]; kernel_rfl
theorem ivCb (c : CCb ops a0 W0 B7 B8 v0 v1 l0 l1) {l : Array Bool} {W W' : World} (h : ICb W0 B7 B8 v0 v1 l0 l1 l W) (hn : Nx W W') {i : Nat} (hi : i ≠ 6 ∧ i ≠ 7) : ICb W0 B7 B8 v0 v1 l0 l1 (l.setIfInBounds i true) W' := I2.step h Tb.nx Tb.nx hn hi
theorem nxCb (c : CCb ops a0 W0 B7 B8 v0 v1 l0 l1) {l : Array Bool} {W : World} (h : ICb W0 B7 B8 v0 v1 l0 l1 l W) (h6 : l.getD 6 false = false) : Nx W0 W := h.nx h6
theorem sCb_0 (c : CCb ops a0 W0 B7 B8 v0 v1 l0 l1) : Stp Try.prog ops Q a0 (KCb W0 B7 B8 v0 v1 l0 l1) (ICb W0 B7 B8 v0 v1 l0 l1) 0 := stp_val (huCb c) (hCb_0 c) rfl (by rw [c.hz]; decide) fun l a W hF hn hd => ⟨want_none rfl, by
    have e7 : a.eval (.tmp 7) = .pointer (some ⟨B7, 0, none⟩) := (hF.old (oCb_7 c)).trans c.z7
    have m := c.b7.at0 (nxCb c hF.inv (hF.off hn (hCb_6 c) (by rfl)))
    refine ⟨.agg #[.pointer none], W, ?_, rfl, Nx.refl W, (ivCb c hF.inv (Nx.refl W) (i := 0) (by decide))⟩
    show (execOp a.eval _).run Try.prog W = _
    simp only [execOp, e7]
    simp [go_sem, m]⟩
theorem sCb_1 (c : CCb ops a0 W0 B7 B8 v0 v1 l0 l1) : Stp Try.prog ops Q a0 (KCb W0 B7 B8 v0 v1 l0 l1) (ICb W0 B7 B8 v0 v1 l0 l1) 1 := stp_val (huCb c) (hCb_1 c) rfl (by rw [c.hz]; decide) fun l a W hF hn hd => ⟨want_none rfl, by
    have e0 : a.eval (.tmp 0) = v0 := (hF.old (oCb_0 c)).trans c.z0
    exact ⟨v0, W, by show Result.ok (Next.value (a.eval _)) W = _; rw [e0], rfl, Nx.refl W, (ivCb c hF.inv (Nx.refl W) (i := 1) (by decide))⟩⟩
theorem sCb_2 (c : CCb ops a0 W0 B7 B8 v0 v1 l0 l1) : Stp Try.prog ops Q a0 (KCb W0 B7 B8 v0 v1 l0 l1) (ICb W0 B7 B8 v0 v1 l0 l1) 2 := stp_call (huCb c) (hCb_2 c) rfl (by rw [c.hz]; decide) fun l a W hF hn hd => ⟨want_none rfl, by
    have e33 : a.eval (.tmp 33) = .agg #[.pointer none] := by obtain ⟨v, e, p⟩ := hF.get (hCb_0 c) rfl (hd.at 0 (by rfl)); exact e.trans p
    have e34 : a.eval (.tmp 34) = v0 := by obtain ⟨v, e, p⟩ := hF.get (hCb_1 c) rfl (hd.at 1 (by rfl)); exact e.trans p
    refine ⟨36, #[.agg #[.pointer none], v0], _, run_enter rfl (by simp only [List.map_toArray, List.map_cons, List.map_nil, e33, e34]) (eval_func _ _) (enters_of Try.func36 (by kernel_rfl) rfl), done_any W _ _ [] l0 (Tb.zero W) (c.r0.nx (nxCb c hF.inv (hF.off hn (hCb_6 c) (by rfl)))) c.s0 (by have := c.n0; simp; omega), ?_⟩
    rintro e W' ⟨r, rfl, hrow, hn2⟩; exact ⟨_, rfl, hrow, hn2, (ivCb c hF.inv hn2 (i := 2) (by decide))⟩⟩
theorem sCb_3 (c : CCb ops a0 W0 B7 B8 v0 v1 l0 l1) : Stp Try.prog ops Q a0 (KCb W0 B7 B8 v0 v1 l0 l1) (ICb W0 B7 B8 v0 v1 l0 l1) 3 := stp_val (huCb c) (hCb_3 c) rfl (by rw [c.hz]; decide) fun l a W hF hn hd => ⟨want_none rfl, by
    have e8 : a.eval (.tmp 8) = .pointer (some ⟨B8, 0, none⟩) := (hF.old (oCb_8 c)).trans c.z8
    have m := c.b8.at0 (nxCb c hF.inv (hF.off (hF.off hn (hCb_5 c) (by rfl)) (hCb_6 c) (by rfl)))
    refine ⟨.agg #[.pointer none], W, ?_, rfl, Nx.refl W, (ivCb c hF.inv (Nx.refl W) (i := 3) (by decide))⟩
    show (execOp a.eval _).run Try.prog W = _
    simp only [execOp, e8]
    simp [go_sem, m]⟩
theorem sCb_4 (c : CCb ops a0 W0 B7 B8 v0 v1 l0 l1) : Stp Try.prog ops Q a0 (KCb W0 B7 B8 v0 v1 l0 l1) (ICb W0 B7 B8 v0 v1 l0 l1) 4 := stp_val (huCb c) (hCb_4 c) rfl (by rw [c.hz]; decide) fun l a W hF hn hd => ⟨want_none rfl, by
    have e1 : a.eval (.tmp 1) = v1 := (hF.old (oCb_1 c)).trans c.z1
    exact ⟨v1, W, by show Result.ok (Next.value (a.eval _)) W = _; rw [e1], rfl, Nx.refl W, (ivCb c hF.inv (Nx.refl W) (i := 4) (by decide))⟩⟩
theorem sCb_5 (c : CCb ops a0 W0 B7 B8 v0 v1 l0 l1) : Stp Try.prog ops Q a0 (KCb W0 B7 B8 v0 v1 l0 l1) (ICb W0 B7 B8 v0 v1 l0 l1) 5 := stp_call (huCb c) (hCb_5 c) rfl (by rw [c.hz]; decide) fun l a W hF hn hd => ⟨want_none rfl, by
    have e36 : a.eval (.tmp 36) = .agg #[.pointer none] := by obtain ⟨v, e, p⟩ := hF.get (hCb_3 c) rfl (hd.at 3 (by rfl)); exact e.trans p
    have e37 : a.eval (.tmp 37) = v1 := by obtain ⟨v, e, p⟩ := hF.get (hCb_4 c) rfl (hd.at 4 (by rfl)); exact e.trans p
    refine ⟨36, #[.agg #[.pointer none], v1], _, run_enter rfl (by simp only [List.map_toArray, List.map_cons, List.map_nil, e36, e37]) (eval_func _ _) (enters_of Try.func36 (by kernel_rfl) rfl), done_any W _ _ [] l1 (Tb.zero W) (c.r1.nx (nxCb c hF.inv (hF.off hn (hCb_6 c) (by rfl)))) c.s1 (by have := c.n1; simp; omega), ?_⟩
    rintro e W' ⟨r, rfl, hrow, hn2⟩; exact ⟨_, rfl, hrow, hn2, (ivCb c hF.inv hn2 (i := 5) (by decide))⟩⟩
theorem sCb_6 (c : CCb ops a0 W0 B7 B8 v0 v1 l0 l1) : Stp Try.prog ops Q a0 (KCb W0 B7 B8 v0 v1 l0 l1) (ICb W0 B7 B8 v0 v1 l0 l1) 6 := stp_skip (hCb_6 c) rfl fun l a W hF hn hd => ⟨want_none rfl, by
    have e7 : a.eval (.tmp 7) = .pointer (some ⟨B7, 0, none⟩) := (hF.old (oCb_7 c)).trans c.z7
    obtain ⟨v35, e35, p35⟩ := hF.get (hCb_2 c) rfl (hd.at 2 (by rfl))
    have p35 : Tb W v35 (acts [] l0) := p35
    have h2 := hF.off hn (hCb_7 c) (by rfl)
    have nx := hF.inv.nx hn
    obtain ⟨u, rfl⟩ := Tb.agg p35
    have hb := c.b7.nx nx
    have m := c.b7.at0 nx
    have f := hb.frozen 0
    refine ⟨W.setCell ⟨B7, 0, none⟩ (.pointer u), ?_, fun j v hne hl => match j, hne, hl with | 0, hne, hl => fun h => h | 1, hne, hl => fun h => h | 2, hne, hl => fun h => Tb.store h hb (by decide) 0 _ | 3, hne, hl => fun h => h | 4, hne, hl => fun h => h | 5, hne, hl => fun h => Tb.store h hb (by decide) 0 _ | 6, hne, hl => fun h => absurd rfl hne | 7, hne, hl => fun h => h | (k + 8), _, _ => fun _ => trivial, hF.inv.putB c.b7 c.ne (by decide) (hF.lt (hCb_6 c)) hn h2 (p35.store hb (by decide) 0 _)⟩
    show (execOp a.eval _).run Try.prog W = _
    simp only [execOp, e7, e35]
    simp [go_sem, m, f]⟩
theorem sCb_7 (c : CCb ops a0 W0 B7 B8 v0 v1 l0 l1) : Stp Try.prog ops Q a0 (KCb W0 B7 B8 v0 v1 l0 l1) (ICb W0 B7 B8 v0 v1 l0 l1) 7 := stp_skip (hCb_7 c) rfl fun l a W hF hn hd => ⟨want_none rfl, by
    have e8 : a.eval (.tmp 8) = .pointer (some ⟨B8, 0, none⟩) := (hF.old (oCb_8 c)).trans c.z8
    obtain ⟨v38, e38, p38⟩ := hF.get (hCb_5 c) rfl (hd.at 5 (by rfl))
    have p38 : Tb W v38 (acts [] l1) := p38
    have h1 := hd.at 6 (by rfl)
    obtain ⟨u, rfl⟩ := Tb.agg p38
    have hb := hF.inv.c0 hn
    have m : W.cell? ⟨B8, 0, none⟩ = some _ := hb.at0 (Nx.refl W)
    have f := hb.frozen 0
    refine ⟨W.setCell ⟨B8, 0, none⟩ (.pointer u), ?_, fun j v hne hl => match j, hne, hl with | 0, hne, hl => fun h => h | 1, hne, hl => fun h => h | 2, hne, hl => fun h => Tb.store h hb (by decide) 0 _ | 3, hne, hl => fun h => h | 4, hne, hl => fun h => h | 5, hne, hl => fun h => Tb.store h hb (by decide) 0 _ | 6, hne, hl => fun h => h | 7, hne, hl => fun h => absurd rfl hne | (k + 8), _, _ => fun _ => trivial, hF.inv.putC c.ne (by decide) (hF.lt (hCb_7 c)) h1 hn (fun v h => Tb.store h hb (by decide) 0 _) (p38.store hb (by decide) 0 _)⟩
    show (execOp a.eval _).run Try.prog W = _
    simp only [execOp, e8, e38]
    simp [go_sem, m, f]⟩
theorem rgCb (c : CCb ops a0 W0 B7 B8 v0 v1 l0 l1) {id : Nat} (fin : ∀ (x33 x34 x35 x36 x37 x38 : Value) (W : World), Chd (fun k => k = B7 ∨ k = B8) W0 W → (∃ u, BlkIs W B7 24 #[u] ∧ Tb W (.agg #[u]) (acts [] l0)) → (∃ u, BlkIs W B8 24 #[u] ∧ Tb W (.agg #[u]) (acts [] l1)) → Q .normal { tmps := ((((((a0.tmps.setIfInBounds 33 x33).setIfInBounds 34 x34).setIfInBounds 35 x35).setIfInBounds 36 x36).setIfInBounds 37 x37).setIfInBounds 38 x38), defers := a0.defers } W) : (Code.region id ops true).wp Try.prog Q a0 W0 := by
  refine flows (K := (KCb W0 B7 B8 v0 v1 l0 l1)) (Inv := (ICb W0 B7 B8 v0 v1 l0 l1)) (by kernel_rfl) (hoCb c) (hnCb c) (I2.start c.b7 c.b8) ⟨⟨⟨⟨⟨⟨⟨⟨trivial, sCb_0 c⟩, sCb_1 c⟩, sCb_2 c⟩, sCb_3 c⟩, sCb_4 c⟩, sCb_5 c⟩, sCb_6 c⟩, sCb_7 c⟩ fun l a W hF hl => ?_
  have f := hF.form
  rw [hdCb c] at f
  simp only [List.foldl] at f
  rw [f]
  exact fin _ _ _ _ _ _ W  hF.inv.chd (hF.inv.b (hl 6 (by decide))) (hF.inv.c (hl 7 (by decide)))
theorem rgCbL {t0_ t1_ t2_ t3_ t4_ t5_ t6_ t7_ t8_ t9_ t10_ t11_ t12_ t13_ t14_ t15_ t16_ t17_ t18_ t19_ t20_ t21_ t22_ t23_ t24_ t25_ t26_ t27_ t28_ t29_ t30_ t31_ t32_ t33_ t34_ t35_ t36_ t37_ t38_ t39_ t40_ t41_ t42_ t43_ t44_ t45_ t46_ t47_ t48_ t49_ t50_ t51_ t52_ t53_ t54_ t55_ t56_ t57_ t58_ t59_ t60_ t61_ t62_ t63_ t64_ t65_ t66_ t67_ t68_ t69_ t70_ t71_ t72_ t73_ t74_ t75_ t76_ t77_ t78_ t79_ t80_ t81_ t82_ t83_ t84_ t85_ t86_ t87_ t88_ t89_ t90_ t91_ t92_ t93_ t94_ t95_ t96_ t97_ t98_ t99_ t100_ t101_ t102_ t103_ t104_ t105_ t106_ t107_ t108_ t109_ t110_ t111_ t112_ t113_ t114_ t115_ t116_ t117_ t118_ t119_ t120_ t121_ t122_ t123_ t124_ t125_ t126_ t127_ t128_ t129_ t130_ t131_ t132_ t133_ t134_ t135_ t136_ t137_ t138_ t139_ t140_ t141_ t142_ t143_ t144_ t145_ t146_ t147_ t148_ t149_ t150_ : Value} {d_ : List Deferred} (c : CCb ops { tmps := #[t0_, t1_, t2_, t3_, t4_, t5_, t6_, t7_, t8_, t9_, t10_, t11_, t12_, t13_, t14_, t15_, t16_, t17_, t18_, t19_, t20_, t21_, t22_, t23_, t24_, t25_, t26_, t27_, t28_, t29_, t30_, t31_, t32_, t33_, t34_, t35_, t36_, t37_, t38_, t39_, t40_, t41_, t42_, t43_, t44_, t45_, t46_, t47_, t48_, t49_, t50_, t51_, t52_, t53_, t54_, t55_, t56_, t57_, t58_, t59_, t60_, t61_, t62_, t63_, t64_, t65_, t66_, t67_, t68_, t69_, t70_, t71_, t72_, t73_, t74_, t75_, t76_, t77_, t78_, t79_, t80_, t81_, t82_, t83_, t84_, t85_, t86_, t87_, t88_, t89_, t90_, t91_, t92_, t93_, t94_, t95_, t96_, t97_, t98_, t99_, t100_, t101_, t102_, t103_, t104_, t105_, t106_, t107_, t108_, t109_, t110_, t111_, t112_, t113_, t114_, t115_, t116_, t117_, t118_, t119_, t120_, t121_, t122_, t123_, t124_, t125_, t126_, t127_, t128_, t129_, t130_, t131_, t132_, t133_, t134_, t135_, t136_, t137_, t138_, t139_, t140_, t141_, t142_, t143_, t144_, t145_, t146_, t147_, t148_, t149_, t150_], defers := d_ } W0 B7 B8 v0 v1 l0 l1) {id : Nat} (fin : ∀ (x33 x34 x35 x36 x37 x38 : Value) (W : World), Chd (fun k => k = B7 ∨ k = B8) W0 W → (∃ u, BlkIs W B7 24 #[u] ∧ Tb W (.agg #[u]) (acts [] l0)) → (∃ u, BlkIs W B8 24 #[u] ∧ Tb W (.agg #[u]) (acts [] l1)) → Q .normal { tmps := #[t0_, t1_, t2_, t3_, t4_, t5_, t6_, t7_, t8_, t9_, t10_, t11_, t12_, t13_, t14_, t15_, t16_, t17_, t18_, t19_, t20_, t21_, t22_, t23_, t24_, t25_, t26_, t27_, t28_, t29_, t30_, t31_, t32_, x33, x34, x35, x36, x37, x38, t39_, t40_, t41_, t42_, t43_, t44_, t45_, t46_, t47_, t48_, t49_, t50_, t51_, t52_, t53_, t54_, t55_, t56_, t57_, t58_, t59_, t60_, t61_, t62_, t63_, t64_, t65_, t66_, t67_, t68_, t69_, t70_, t71_, t72_, t73_, t74_, t75_, t76_, t77_, t78_, t79_, t80_, t81_, t82_, t83_, t84_, t85_, t86_, t87_, t88_, t89_, t90_, t91_, t92_, t93_, t94_, t95_, t96_, t97_, t98_, t99_, t100_, t101_, t102_, t103_, t104_, t105_, t106_, t107_, t108_, t109_, t110_, t111_, t112_, t113_, t114_, t115_, t116_, t117_, t118_, t119_, t120_, t121_, t122_, t123_, t124_, t125_, t126_, t127_, t128_, t129_, t130_, t131_, t132_, t133_, t134_, t135_, t136_, t137_, t138_, t139_, t140_, t141_, t142_, t143_, t144_, t145_, t146_, t147_, t148_, t149_, t150_], defers := d_ } W) : (Code.region id ops true).wp Try.prog Q { tmps := #[t0_, t1_, t2_, t3_, t4_, t5_, t6_, t7_, t8_, t9_, t10_, t11_, t12_, t13_, t14_, t15_, t16_, t17_, t18_, t19_, t20_, t21_, t22_, t23_, t24_, t25_, t26_, t27_, t28_, t29_, t30_, t31_, t32_, t33_, t34_, t35_, t36_, t37_, t38_, t39_, t40_, t41_, t42_, t43_, t44_, t45_, t46_, t47_, t48_, t49_, t50_, t51_, t52_, t53_, t54_, t55_, t56_, t57_, t58_, t59_, t60_, t61_, t62_, t63_, t64_, t65_, t66_, t67_, t68_, t69_, t70_, t71_, t72_, t73_, t74_, t75_, t76_, t77_, t78_, t79_, t80_, t81_, t82_, t83_, t84_, t85_, t86_, t87_, t88_, t89_, t90_, t91_, t92_, t93_, t94_, t95_, t96_, t97_, t98_, t99_, t100_, t101_, t102_, t103_, t104_, t105_, t106_, t107_, t108_, t109_, t110_, t111_, t112_, t113_, t114_, t115_, t116_, t117_, t118_, t119_, t120_, t121_, t122_, t123_, t124_, t125_, t126_, t127_, t128_, t129_, t130_, t131_, t132_, t133_, t134_, t135_, t136_, t137_, t138_, t139_, t140_, t141_, t142_, t143_, t144_, t145_, t146_, t147_, t148_, t149_, t150_], defers := d_ } W0 := by
  refine rgCb c ?_
  intro x33 x34 x35 x36 x37 x38 W
  have e : ((((((#[t0_, t1_, t2_, t3_, t4_, t5_, t6_, t7_, t8_, t9_, t10_, t11_, t12_, t13_, t14_, t15_, t16_, t17_, t18_, t19_, t20_, t21_, t22_, t23_, t24_, t25_, t26_, t27_, t28_, t29_, t30_, t31_, t32_, t33_, t34_, t35_, t36_, t37_, t38_, t39_, t40_, t41_, t42_, t43_, t44_, t45_, t46_, t47_, t48_, t49_, t50_, t51_, t52_, t53_, t54_, t55_, t56_, t57_, t58_, t59_, t60_, t61_, t62_, t63_, t64_, t65_, t66_, t67_, t68_, t69_, t70_, t71_, t72_, t73_, t74_, t75_, t76_, t77_, t78_, t79_, t80_, t81_, t82_, t83_, t84_, t85_, t86_, t87_, t88_, t89_, t90_, t91_, t92_, t93_, t94_, t95_, t96_, t97_, t98_, t99_, t100_, t101_, t102_, t103_, t104_, t105_, t106_, t107_, t108_, t109_, t110_, t111_, t112_, t113_, t114_, t115_, t116_, t117_, t118_, t119_, t120_, t121_, t122_, t123_, t124_, t125_, t126_, t127_, t128_, t129_, t130_, t131_, t132_, t133_, t134_, t135_, t136_, t137_, t138_, t139_, t140_, t141_, t142_, t143_, t144_, t145_, t146_, t147_, t148_, t149_, t150_].setIfInBounds 33 x33).setIfInBounds 34 x34).setIfInBounds 35 x35).setIfInBounds 36 x36).setIfInBounds 37 x37).setIfInBounds 38 x38) = #[t0_, t1_, t2_, t3_, t4_, t5_, t6_, t7_, t8_, t9_, t10_, t11_, t12_, t13_, t14_, t15_, t16_, t17_, t18_, t19_, t20_, t21_, t22_, t23_, t24_, t25_, t26_, t27_, t28_, t29_, t30_, t31_, t32_, x33, x34, x35, x36, x37, x38, t39_, t40_, t41_, t42_, t43_, t44_, t45_, t46_, t47_, t48_, t49_, t50_, t51_, t52_, t53_, t54_, t55_, t56_, t57_, t58_, t59_, t60_, t61_, t62_, t63_, t64_, t65_, t66_, t67_, t68_, t69_, t70_, t71_, t72_, t73_, t74_, t75_, t76_, t77_, t78_, t79_, t80_, t81_, t82_, t83_, t84_, t85_, t86_, t87_, t88_, t89_, t90_, t91_, t92_, t93_, t94_, t95_, t96_, t97_, t98_, t99_, t100_, t101_, t102_, t103_, t104_, t105_, t106_, t107_, t108_, t109_, t110_, t111_, t112_, t113_, t114_, t115_, t116_, t117_, t118_, t119_, t120_, t121_, t122_, t123_, t124_, t125_, t126_, t127_, t128_, t129_, t130_, t131_, t132_, t133_, t134_, t135_, t136_, t137_, t138_, t139_, t140_, t141_, t142_, t143_, t144_, t145_, t146_, t147_, t148_, t149_, t150_] := by kernel_rfl
  have f := fin x33 x34 x35 x36 x37 x38 W
  rw [← e] at f
  exact f
end
end Go.Proofs.Ytekcphpeaoaaaaa

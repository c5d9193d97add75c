/- Package vector: the region that draws its order of Text. Made by wip/tools/rg_vct.py. -/
import Derived.Test.YtlmfjalkgapcgaaDoorVcTextF
import Derived.Test.YtlmfjalkgapcgaaDoorGnFlow
namespace Go.Proofs.YtlmfjalkgapcgaaDoor
open Go.RowKit
set_option linter.unusedVariables false
set_option maxRecDepth 100000
section
variable {ops : Array Oper} {a0 : Act} {W0 : World} {Q : Exit → Act → World → Prop} {g B : Nat} {v3 : Value} {d : Int} {n : Nat} {s1 s2 : List UInt8} {L : List (List UInt8)}
structure CTx (ops : Array Oper) (a0 : Act) (W0 : World) (g B : Nat) (v3 : Value) (d : Int) (n : Nat) (s1 s2 : List UInt8) (L : List (List UInt8)) : Prop where
  hops : rops Tryd.f10 7 = ops
  hz : a0.tmps.size = 29
  z5 : a0.eval (.tmp 5) = .pointer (some ⟨g, 0, none⟩)
  z3 : a0.eval (.tmp 3) = v3
  b : BlkIs W0 g 29 #[.int .i64 d, .int .u64 n]
  hr : RwG strE W0 B v3 L
  hl : L.length ≤ 100
  hs1 : s1.length ≤ 100
  hs2 : s2.length ≤ 100
  hB : B ≤ W0.heap.size
  c1 : ∀ W, Nx W0 W → Calls Tryd.prog 36 #[.int .i64 d] W fun e w' => e = .returned (.string (S s1)) ∧ Nx W w'
  c2 : ∀ W, Nx W0 W → Calls Tryd.prog 37 #[.int .u64 n, .int .i64 10] W fun e w' => e = .returned (.string (S s2)) ∧ Nx W w'
def KTx (W0 : World) (g B : Nat) (v3 : Value) (d : Int) (n : Nat) (s1 s2 : List UInt8) (L : List (List UInt8)) : List Kd := [Kd.eq (v3), Kd.eq (.pointer (some ⟨g, 0, none⟩)), Kd.eq (.int .i64 d), Kd.eq (.string (S s1)), Kd.eq (.string (S (s1 ++ [58]))), Kd.eq (.pointer (some ⟨g, 1, none⟩)), Kd.eq (.int .u64 n), Kd.eq (.string (S s2)), Kd.eq (.string (S (s1 ++ [58] ++ s2))), Kd.till 10 (fun v W => RdG strE W v [s1 ++ [58] ++ s2]) RdG.nx, Kd.of (fun v W => RwG strE W B v (L ++ [s1 ++ [58] ++ s2])) RwG.nx, Kd.of (fun v W => RwG strE W B v (L ++ [s1 ++ [58] ++ s2])) RwG.nx]
/-- What is kept. -/
abbrev ITx (W0 : World) (g B : Nat) (v3 : Value) (d : Int) (n : Nat) (s1 s2 : List UInt8) (L : List (List UInt8)) : Array Bool → World → Prop := (fun l W => IvA 10 W0 v3 l W)
theorem hTx_0 (c : CTx ops a0 W0 g B v3 d n s1 s2 L) : ops[0]? = some { dst := some 15, op := .move (.tmp 3), type := 57, pos := "vector.go:96", after := #[], guard := none } := by rw [← c.hops]; rfl
theorem hTx_1 (c : CTx ops a0 W0 g B v3 d n s1 s2 L) : ops[1]? = some { dst := some 16, op := .fieldAddr 29 (.tmp 5) 0, type := 0, pos := "vector.go:96", after := #[], guard := none } := by rw [← c.hops]; rfl
theorem hTx_2 (c : CTx ops a0 W0 g B v3 d n s1 s2 L) : ops[2]? = some { dst := some 17, op := .load 3 (.tmp 16), type := 3, pos := "vector.go:96", after := #[{ on := 1, ground := .data }], guard := none } := by rw [← c.hops]; rfl
theorem hTx_3 (c : CTx ops a0 W0 g B v3 d n s1 s2 L) : ops[3]? = some { dst := some 18, op := .call { callee := .value (.func 36), args := #[.tmp 17], argTypes := #[3] }, type := 9, pos := "vector.go:96", after := #[{ on := 2, ground := .data }], guard := none } := by rw [← c.hops]; rfl
theorem hTx_4 (c : CTx ops a0 W0 g B v3 d n s1 s2 L) : ops[4]? = some { dst := some 19, op := .binOp .add 9 (.tmp 18) (.const (.string { data := #[58] })) 9, type := 9, pos := "vector.go:96", after := #[{ on := 3, ground := .data }], guard := none } := by rw [← c.hops]; rfl
theorem hTx_5 (c : CTx ops a0 W0 g B v3 d n s1 s2 L) : ops[5]? = some { dst := some 20, op := .fieldAddr 29 (.tmp 5) 1, type := 0, pos := "vector.go:96", after := #[], guard := none } := by rw [← c.hops]; rfl
theorem hTx_6 (c : CTx ops a0 W0 g B v3 d n s1 s2 L) : ops[6]? = some { dst := some 21, op := .load 27 (.tmp 20), type := 27, pos := "vector.go:96", after := #[{ on := 5, ground := .data }], guard := none } := by rw [← c.hops]; rfl
theorem hTx_7 (c : CTx ops a0 W0 g B v3 d n s1 s2 L) : ops[7]? = some { dst := some 22, op := .call { callee := .value (.func 37), args := #[.tmp 21, .const (.int .i64 10)], argTypes := #[27, 3] }, type := 9, pos := "vector.go:96", after := #[{ on := 6, ground := .data }, { on := 3, ground := .chain }], guard := none } := by rw [← c.hops]; rfl
theorem hTx_8 (c : CTx ops a0 W0 g B v3 d n s1 s2 L) : ops[8]? = some { dst := some 23, op := .binOp .add 9 (.tmp 19) (.tmp 22) 9, type := 9, pos := "vector.go:96", after := #[{ on := 4, ground := .data }, { on := 7, ground := .data }], guard := none } := by rw [← c.hops]; rfl
theorem hTx_9 (c : CTx ops a0 W0 g B v3 d n s1 s2 L) : ops[9]? = some { dst := some 24, op := .buildSlice 57 1 #[(0, .tmp 23)], type := 57, pos := "vector.go:96", after := #[{ on := 8, ground := .data }], guard := none } := by rw [← c.hops]; rfl
theorem hTx_10 (c : CTx ops a0 W0 g B v3 d n s1 s2 L) : ops[10]? = some { dst := some 25, op := .call { callee := .builtin .append, args := #[.tmp 15, .tmp 24], argTypes := #[57, 57] }, type := 57, pos := "vector.go:96", after := #[{ on := 0, ground := .data }, { on := 9, ground := .data }, { on := 7, ground := .chain }], guard := none } := by rw [← c.hops]; rfl
theorem hTx_11 (c : CTx ops a0 W0 g B v3 d n s1 s2 L) : ops[11]? = some { dst := some 3, op := .assign (.tmp 25), type := 57, pos := "vector.go:96", after := #[{ on := 10, ground := .data }, { on := 10, ground := .chain }, { on := 0, ground := .phase }, { on := 1, ground := .phase }, { on := 2, ground := .phase }, { on := 3, ground := .phase }, { on := 4, ground := .phase }, { on := 5, ground := .phase }, { on := 6, ground := .phase }, { on := 7, ground := .phase }, { on := 8, ground := .phase }, { on := 9, ground := .phase }, { on := 10, ground := .phase }], guard := none } := by rw [← c.hops]; rfl
theorem huTx (c : CTx ops a0 W0 g B v3 d n s1 s2 L) : dstB ops = true := by rw [← c.hops]; kernel_rfl
theorem hoTx (c : CTx ops a0 W0 g B v3 d n s1 s2 L) : ordB ops = true := by rw [← c.hops]; kernel_rfl
theorem hnTx (c : CTx ops a0 W0 g B v3 d n s1 s2 L) : ops.size = 12 := by rw [← c.hops]; rfl
theorem hdTx (c : CTx ops a0 W0 g B v3 d n s1 s2 L) : dsts ops = [15, 16, 17, 18, 19, 20, 21, 22, 23, 24, 25, 3] := by rw [← c.hops]; rfl
theorem oTx_5 (c : CTx ops a0 W0 g B v3 d n s1 s2 L) : oldB ops 5 = true := by rw [← c.hops]; kernel_rfl
theorem ivTx {l : Array Bool} {W W' : World} (c : CTx ops a0 W0 g B v3 d n s1 s2 L) (h : ITx W0 g B v3 d n s1 s2 L l W) (k : Nx W W') {i : Nat} (hi : i ≠ 10) : ITx W0 g B v3 d n s1 s2 L (l.setIfInBounds i true) W' := IvA.step h k hi
theorem nxTx {l : Array Bool} {W : World} (c : CTx ops a0 W0 g B v3 d n s1 s2 L) (h : ITx W0 g B v3 d n s1 s2 L l W) (hn : l.getD 10 false = false) : Nx W0 W := IvA.nx h hn
theorem sTx_0 (c : CTx ops a0 W0 g B v3 d n s1 s2 L) : Stp Tryd.prog ops Q a0 (KTx W0 g B v3 d n s1 s2 L) (ITx W0 g B v3 d n s1 s2 L) 0 := stp_val (huTx c) (hTx_0 c) rfl (by rw [c.hz]; decide) fun l a W hF hn hd => ⟨want_none rfl, by
    have h11 := hF.off hn (hTx_11 c) (by rfl)
    have e3 : a.eval (.tmp 3) = v3 := by
      have e := hF.ot 3 fun i o ho hs => by
        obtain rfl : i = 11 := dstB_spec (huTx c) ho (hTx_11 c) hs rfl
        rw [← h11]; exact getD_both (hF.lt (hTx_11 c)) _ _
      have e0 := c.z3
      show a.tmps.getD 3 undef = v3
      rw [Array.getD_eq_getD_getElem?, e, ← Array.getD_eq_getD_getElem?]
      exact e0
    exact ⟨v3, W, by show Result.ok (Next.value (a.eval _)) W = _; rw [e3], rfl, Nx.refl W, (ivTx c hF.inv (Nx.refl W) (i := 0) (by decide))⟩⟩
theorem sTx_1 (c : CTx ops a0 W0 g B v3 d n s1 s2 L) : Stp Tryd.prog ops Q a0 (KTx W0 g B v3 d n s1 s2 L) (ITx W0 g B v3 d n s1 s2 L) 1 := stp_val (huTx c) (hTx_1 c) rfl (by rw [c.hz]; decide) fun l a W hF hn hd => ⟨want_none rfl, by
    have e5 : a.eval (.tmp 5) = .pointer (some ⟨g, 0, none⟩) := (hF.old (oTx_5 c)).trans c.z5
    refine ⟨.pointer (some ⟨g, 0, none⟩), W, ?_, rfl, Nx.refl W, (ivTx c hF.inv (Nx.refl W) (i := 1) (by decide))⟩
    show (execOp a.eval _).run Tryd.prog W = _
    simp only [execOp, e5]
    simp [go_sem]⟩
theorem sTx_2 (c : CTx ops a0 W0 g B v3 d n s1 s2 L) : Stp Tryd.prog ops Q a0 (KTx W0 g B v3 d n s1 s2 L) (ITx W0 g B v3 d n s1 s2 L) 2 := stp_val (huTx c) (hTx_2 c) rfl (by rw [c.hz]; decide) fun l a W hF hn hd => ⟨want_none rfl, by
    have e16 : a.eval (.tmp 16) = .pointer (some ⟨g, 0, none⟩) := by obtain ⟨v, e, p⟩ := hF.get (hTx_1 c) rfl (hd.at 1 (by rfl)); exact e.trans p
    have m : W.cell? ⟨g, 0, none⟩ = some (.int .i64 d) := by rw [(c.b.nx (nxTx c hF.inv (hF.off (hF.off (hF.off hn (hTx_3 c) (by rfl)) (hTx_7 c) (by rfl)) (hTx_10 c) (by rfl)))).cell]; rfl
    refine ⟨.int .i64 d, W, ?_, rfl, Nx.refl W, (ivTx c hF.inv (Nx.refl W) (i := 2) (by decide))⟩
    show (execOp a.eval _).run Tryd.prog W = _
    simp only [execOp, e16]
    simp [go_sem, m]⟩
theorem sTx_3 (c : CTx ops a0 W0 g B v3 d n s1 s2 L) : Stp Tryd.prog ops Q a0 (KTx W0 g B v3 d n s1 s2 L) (ITx W0 g B v3 d n s1 s2 L) 3 := stp_call (huTx c) (hTx_3 c) rfl (by rw [c.hz]; decide) fun l a W hF hn hd => ⟨want_none rfl, by
    have e17 : a.eval (.tmp 17) = .int .i64 d := by obtain ⟨v, e, p⟩ := hF.get (hTx_2 c) rfl (hd.at 2 (by rfl)); exact e.trans p
    refine ⟨36, #[.int .i64 d], _, run_enter rfl (by simp only [List.map_toArray, List.map_cons, List.map_nil, e17]) (eval_func _ _) (enters_of Tryd.func36 (by kernel_rfl) rfl), c.c1 W (nxTx c hF.inv (hF.off (hF.off hn (hTx_7 c) (by rfl)) (hTx_10 c) (by rfl))), ?_⟩
    rintro e W' ⟨rfl, hn2⟩; exact ⟨_, rfl, rfl, hn2, (ivTx c hF.inv hn2 (i := 3) (by decide))⟩⟩
theorem sTx_4 (c : CTx ops a0 W0 g B v3 d n s1 s2 L) : Stp Tryd.prog ops Q a0 (KTx W0 g B v3 d n s1 s2 L) (ITx W0 g B v3 d n s1 s2 L) 4 := stp_val (huTx c) (hTx_4 c) rfl (by rw [c.hz]; decide) fun l a W hF hn hd => ⟨want_none rfl, by
    have e18 : a.eval (.tmp 18) = .string (S s1) := by obtain ⟨v, e, p⟩ := hF.get (hTx_3 c) rfl (hd.at 3 (by rfl)); exact e.trans p
    have hl1 := c.hs1
    exact ⟨.string (S (s1 ++ [58])), W, run_addS (q := [58]) rfl e18 rfl (by simp; omega), rfl, Nx.refl W, (ivTx c hF.inv (Nx.refl W) (i := 4) (by decide))⟩⟩
theorem sTx_5 (c : CTx ops a0 W0 g B v3 d n s1 s2 L) : Stp Tryd.prog ops Q a0 (KTx W0 g B v3 d n s1 s2 L) (ITx W0 g B v3 d n s1 s2 L) 5 := stp_val (huTx c) (hTx_5 c) rfl (by rw [c.hz]; decide) fun l a W hF hn hd => ⟨want_none rfl, by
    have e5 : a.eval (.tmp 5) = .pointer (some ⟨g, 0, none⟩) := (hF.old (oTx_5 c)).trans c.z5
    refine ⟨.pointer (some ⟨g, 1, none⟩), W, ?_, rfl, Nx.refl W, (ivTx c hF.inv (Nx.refl W) (i := 5) (by decide))⟩
    show (execOp a.eval _).run Tryd.prog W = _
    simp only [execOp, e5]
    simp [go_sem]⟩
theorem sTx_6 (c : CTx ops a0 W0 g B v3 d n s1 s2 L) : Stp Tryd.prog ops Q a0 (KTx W0 g B v3 d n s1 s2 L) (ITx W0 g B v3 d n s1 s2 L) 6 := stp_val (huTx c) (hTx_6 c) rfl (by rw [c.hz]; decide) fun l a W hF hn hd => ⟨want_none rfl, by
    have e20 : a.eval (.tmp 20) = .pointer (some ⟨g, 1, none⟩) := by obtain ⟨v, e, p⟩ := hF.get (hTx_5 c) rfl (hd.at 5 (by rfl)); exact e.trans p
    have m : W.cell? ⟨g, 1, none⟩ = some (.int .u64 n) := by rw [(c.b.nx (nxTx c hF.inv (hF.off (hF.off hn (hTx_7 c) (by rfl)) (hTx_10 c) (by rfl)))).cell]; rfl
    refine ⟨.int .u64 n, W, ?_, rfl, Nx.refl W, (ivTx c hF.inv (Nx.refl W) (i := 6) (by decide))⟩
    show (execOp a.eval _).run Tryd.prog W = _
    simp only [execOp, e20]
    simp [go_sem, m]⟩
theorem sTx_7 (c : CTx ops a0 W0 g B v3 d n s1 s2 L) : Stp Tryd.prog ops Q a0 (KTx W0 g B v3 d n s1 s2 L) (ITx W0 g B v3 d n s1 s2 L) 7 := stp_call (huTx c) (hTx_7 c) rfl (by rw [c.hz]; decide) fun l a W hF hn hd => ⟨want_none rfl, by
    have e21 : a.eval (.tmp 21) = .int .u64 n := by obtain ⟨v, e, p⟩ := hF.get (hTx_6 c) rfl (hd.at 6 (by rfl)); exact e.trans p
    refine ⟨37, #[.int .u64 n, .int .i64 10], _, run_enter rfl (by simp only [List.map_toArray, List.map_cons, List.map_nil, e21, eval_const]) (eval_func _ _) (enters_of Tryd.func37 (by kernel_rfl) rfl), c.c2 W (nxTx c hF.inv (hF.off hn (hTx_10 c) (by rfl))), ?_⟩
    rintro e W' ⟨rfl, hn2⟩; exact ⟨_, rfl, rfl, hn2, (ivTx c hF.inv hn2 (i := 7) (by decide))⟩⟩
theorem sTx_8 (c : CTx ops a0 W0 g B v3 d n s1 s2 L) : Stp Tryd.prog ops Q a0 (KTx W0 g B v3 d n s1 s2 L) (ITx W0 g B v3 d n s1 s2 L) 8 := stp_val (huTx c) (hTx_8 c) rfl (by rw [c.hz]; decide) fun l a W hF hn hd => ⟨want_none rfl, by
    have e19 : a.eval (.tmp 19) = .string (S (s1 ++ [58])) := by obtain ⟨v, e, p⟩ := hF.get (hTx_4 c) rfl (hd.at 4 (by rfl)); exact e.trans p
    have e22 : a.eval (.tmp 22) = .string (S s2) := by obtain ⟨v, e, p⟩ := hF.get (hTx_7 c) rfl (hd.at 7 (by rfl)); exact e.trans p
    have hl1 := c.hs1
    have hl2 := c.hs2
    exact ⟨.string (S (s1 ++ [58] ++ s2)), W, run_addS rfl e19 e22 (by simp; omega), rfl, Nx.refl W, (ivTx c hF.inv (Nx.refl W) (i := 8) (by decide))⟩⟩
theorem sTx_9 (c : CTx ops a0 W0 g B v3 d n s1 s2 L) : Stp Tryd.prog ops Q a0 (KTx W0 g B v3 d n s1 s2 L) (ITx W0 g B v3 d n s1 s2 L) 9 := stp_val (huTx c) (hTx_9 c) rfl (by rw [c.hz]; decide) fun l a W hF hn hd => ⟨want_none rfl, by
    have e23 : a.eval (.tmp 23) = .string (S (s1 ++ [58] ++ s2)) := by obtain ⟨v, e, p⟩ := hF.get (hTx_8 c) rfl (hd.at 8 (by rfl)); exact e.trans p
    have nxa : Nx W (W.alloc (.cells #[.string (S (s1 ++ [58] ++ s2))] 9)) := (Nx.refl W).alloc _
    refine ⟨.slice (some ⟨W.heap.size, 0, none⟩) 1 1, W.alloc (.cells #[.string (S (s1 ++ [58] ++ s2))] 9), ?_, fun _ => rd_lit (E := strE) W _ rfl, nxa, (ivTx c hF.inv nxa (i := 9) (by decide))⟩
    show (execOp a.eval _).run Tryd.prog W = _
    simp only [execOp]
    generalize a.eval = ev at *
    simp [go_sem, e23]⟩
theorem sTx_10 (c : CTx ops a0 W0 g B v3 d n s1 s2 L) : Stp Tryd.prog ops Q a0 (KTx W0 g B v3 d n s1 s2 L) (ITx W0 g B v3 d n s1 s2 L) 10 := stp_turn (huTx c) (hTx_10 c) rfl (by rw [c.hz]; decide) fun l a W hF hn hd => ⟨want_none rfl, by
    have e15 : a.eval (.tmp 15) = v3 := by obtain ⟨v, e, p⟩ := hF.get (hTx_0 c) rfl (hd.at 0 (by rfl)); exact e.trans p
    obtain ⟨v24, e24, p24⟩ := hF.get (hTx_9 c) rfl (hd.at 9 (by rfl))
    have hl0 := c.hl
    obtain ⟨v', W', h1, hrow, hg⟩ := run_appGW (E := strE) (o := { dst := some 25, op := .call { callee := .builtin .append, args := #[.tmp 15, .tmp 24], argTypes := #[57, 57] }, type := 57, pos := "vector.go:96", after := #[{ on := 0, ground := .data }, { on := 9, ground := .data }, { on := 7, ground := .chain }], guard := none }) 57 Tryd.underlying57 (.tmp 15) (.tmp 24) rfl B _ _ L [s1 ++ [58] ++ s2] e15 e24 (c.hr.nx (nxTx c hF.inv hn)) (p24 hn) (by simp; omega) (Nat.le_trans c.hB (nxTx c hF.inv hn).size)
    exact ⟨v', W', h1, hrow, fun j v hne hl => match j, hne, hl with | 0, hne, hl => fun h => h | 1, hne, hl => fun h => h | 2, hne, hl => fun h => h | 3, hne, hl => fun h => h | 4, hne, hl => fun h => h | 5, hne, hl => fun h => h | 6, hne, hl => fun h => h | 7, hne, hl => fun h => h | 8, hne, hl => fun h => h | 9, hne, hl => fun h => fun e => absurd e (by rw [getD_set_self (hF.lt (hTx_10 c))]; decide) | 10, hne, hl => fun h => absurd rfl hne | 11, hne, hl => fun h => absurd hl (by rw [(hF.off hn (hTx_11 c) (by rfl))]; decide) | (k + 12), _, _ => fun _ => trivial, hF.inv.turn (hF.lt (hTx_10 c)) hg⟩⟩
theorem sTx_11 (c : CTx ops a0 W0 g B v3 d n s1 s2 L) : Stp Tryd.prog ops Q a0 (KTx W0 g B v3 d n s1 s2 L) (ITx W0 g B v3 d n s1 s2 L) 11 := stp_val (huTx c) (hTx_11 c) rfl (by rw [c.hz]; decide) fun l a W hF hn hd => ⟨want_none rfl, by
    obtain ⟨v25, e25, p25⟩ := hF.get (hTx_10 c) rfl (hd.at 10 (by rfl))
    have p25 : RwG strE W B v25 (L ++ [s1 ++ [58] ++ s2]) := p25
    exact ⟨v25, W, by show Result.ok (Next.value (a.eval _)) W = _; rw [e25], p25, Nx.refl W, (ivTx c hF.inv (Nx.refl W) (i := 11) (by decide))⟩⟩
theorem rgTx (c : CTx ops a0 W0 g B v3 d n s1 s2 L) {id : Nat} (fin : ∀ (x15 x16 x17 x18 x19 x20 x21 x22 x23 x24 x25 x3 : Value) (W : World), RwG strE W B x3 (L ++ [s1 ++ [58] ++ s2]) → Chd (fun j => v3.ownBlock = some j) W0 W → Q .normal { tmps := ((((((((((((a0.tmps.setIfInBounds 15 x15).setIfInBounds 16 x16).setIfInBounds 17 x17).setIfInBounds 18 x18).setIfInBounds 19 x19).setIfInBounds 20 x20).setIfInBounds 21 x21).setIfInBounds 22 x22).setIfInBounds 23 x23).setIfInBounds 24 x24).setIfInBounds 25 x25).setIfInBounds 3 x3), defers := a0.defers } W) : (Code.region id ops true).wp Tryd.prog Q a0 W0 := by
  refine flows (K := (KTx W0 g B v3 d n s1 s2 L)) (Inv := (ITx W0 g B v3 d n s1 s2 L)) (by kernel_rfl) (hoTx c) (hnTx c) IvA.start ⟨⟨⟨⟨⟨⟨⟨⟨⟨⟨⟨⟨trivial, sTx_0 c⟩, sTx_1 c⟩, sTx_2 c⟩, sTx_3 c⟩, sTx_4 c⟩, sTx_5 c⟩, sTx_6 c⟩, sTx_7 c⟩, sTx_8 c⟩, sTx_9 c⟩, sTx_10 c⟩, sTx_11 c⟩ fun l a W hF hl => ?_
  have f := hF.form
  rw [hdTx c] at f
  simp only [List.foldl] at f
  obtain ⟨v3, e3, p3⟩ := hF.get (hTx_11 c) rfl (hl 11 (by decide))
  have q3 : a.tmps.getD 3 undef = v3 := e3
  rw [q3] at f
  rw [f]
  exact fin _ _ _ _ _ _ _ _ _ _ _ v3 W p3 hF.inv.chd
theorem rgTxL {t0_ t1_ t2_ t3_ t4_ t5_ t6_ t7_ t8_ t9_ t10_ t11_ t12_ t13_ t14_ t15_ t16_ t17_ t18_ t19_ t20_ t21_ t22_ t23_ t24_ t25_ t26_ t27_ t28_ : Value} {d_ : List Deferred} (c : CTx ops { tmps := #[t0_, t1_, t2_, t3_, t4_, t5_, t6_, t7_, t8_, t9_, t10_, t11_, t12_, t13_, t14_, t15_, t16_, t17_, t18_, t19_, t20_, t21_, t22_, t23_, t24_, t25_, t26_, t27_, t28_], defers := d_ } W0 g B v3 d n s1 s2 L) {id : Nat} (fin : ∀ (x15 x16 x17 x18 x19 x20 x21 x22 x23 x24 x25 x3 : Value) (W : World), RwG strE W B x3 (L ++ [s1 ++ [58] ++ s2]) → Chd (fun j => v3.ownBlock = some j) W0 W → Q .normal { tmps := #[t0_, t1_, t2_, x3, t4_, t5_, t6_, t7_, t8_, t9_, t10_, t11_, t12_, t13_, t14_, x15, x16, x17, x18, x19, x20, x21, x22, x23, x24, x25, t26_, t27_, t28_], defers := d_ } W) : (Code.region id ops true).wp Tryd.prog Q { tmps := #[t0_, t1_, t2_, t3_, t4_, t5_, t6_, t7_, t8_, t9_, t10_, t11_, t12_, t13_, t14_, t15_, t16_, t17_, t18_, t19_, t20_, t21_, t22_, t23_, t24_, t25_, t26_, t27_, t28_], defers := d_ } W0 := by
  refine rgTx c ?_
  intro x15 x16 x17 x18 x19 x20 x21 x22 x23 x24 x25 x3 W
  have e : ((((((((((((#[t0_, t1_, t2_, t3_, t4_, t5_, t6_, t7_, t8_, t9_, t10_, t11_, t12_, t13_, t14_, t15_, t16_, t17_, t18_, t19_, t20_, t21_, t22_, t23_, t24_, t25_, t26_, t27_, t28_].setIfInBounds 15 x15).setIfInBounds 16 x16).setIfInBounds 17 x17).setIfInBounds 18 x18).setIfInBounds 19 x19).setIfInBounds 20 x20).setIfInBounds 21 x21).setIfInBounds 22 x22).setIfInBounds 23 x23).setIfInBounds 24 x24).setIfInBounds 25 x25).setIfInBounds 3 x3) = #[t0_, t1_, t2_, x3, t4_, t5_, t6_, t7_, t8_, t9_, t10_, t11_, t12_, t13_, t14_, x15, x16, x17, x18, x19, x20, x21, x22, x23, x24, x25, t26_, t27_, t28_] := by kernel_rfl
  have f := fin x15 x16 x17 x18 x19 x20 x21 x22 x23 x24 x25 x3 W
  rw [← e] at f
  exact f
end
end Go.Proofs.YtlmfjalkgapcgaaDoor

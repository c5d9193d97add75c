/- Package table: TableStays, its regions that draw their order. Made by wip/tools/rg_sta.py. -/
import Derived.Test.YtekcphpeaoaaaaaTbRg
namespace Go.Proofs.Ytekcphpeaoaaaaa
open Go.RowKit Go.Shelf
set_option linter.unusedVariables false
set_option maxRecDepth 100000
/-- Block g holds these pairs, ahead of what else it holds. -/
def Arr (W : World) (g : Nat) (l : List Pr) : Prop := ∃ cur, BlkIs W g 40 cur ∧ ∀ (j : Nat) (u : Value), (prsC l)[j]? = some u → cur[j]? = some u
theorem Arr.nx {w w' : World} {g : Nat} {l : List Pr} (h : Arr w g l) (k : Nx w w') : Arr w' g l := by
  obtain ⟨cur, hb, hc⟩ := h
  exact ⟨cur, hb.nx k, hc⟩
theorem Arr.at_ {w : World} {g : Nat} {l : List Pr} (h : Arr w g l) {i : Nat} {p : Pr} (hi : l[i]? = some p) : w.cell? ⟨g, i * 3, none⟩ = some (.string (S p.k)) ∧ w.cell? ⟨g, i * 3 + 1, none⟩ = some (.string (S p.v)) ∧ w.cell? ⟨g, i * 3 + 2, none⟩ = some (.bool p.g) := by
  obtain ⟨cur, hb, hc⟩ := h
  obtain ⟨hl, rfl⟩ := List.getElem?_eq_some_iff.1 hi
  refine ⟨?_, ?_, ?_⟩
  · rw [hb.cell]; exact hc _ _ (prsC_at l i hl 0 (by omega))
  · rw [hb.cell]; exact hc _ _ (prsC_at l i hl 1 (by omega))
  · rw [hb.cell]; exact hc _ _ (prsC_at l i hl 2 (by omega))
theorem Arr.rd {w : World} {g c : Nat} {l : List Pr} (h : Arr w g l) : Rd w (.slice (some ⟨g, 0, none⟩) l.length c) l := by
  obtain ⟨cur, hb, hc⟩ := h
  exact .inr ⟨g, 0, c, rfl, fun j u hu => by rw [Nat.zero_add, hb.cell]; exact hc j u hu⟩
theorem Row.arr {W : World} {B g n c : Nat} {l : List Pr} (h : Row W B (.slice (some ⟨g, 0, none⟩) n c) l) : Arr W g l := by
  rcases h.2 with ⟨e, _⟩ | ⟨g', cap, cur, e, _, hg, _, _, _, ht⟩
  · cases e
  · simp only [Value.slice.injEq, Option.some.injEq, Addr.mk.injEq, and_true] at e
    obtain ⟨rfl, rfl, rfl⟩ := e
    refine ⟨cur, hg, fun j u hu => ?_⟩
    rw [← ht, List.getElem?_take] at hu
    split at hu
    · simpa using hu
    · cases hu
theorem prsC_set : ∀ (l : List Pr) (i : Nat) (p : Pr), i < l.length → prsC (l.set i p) = (((prsC l).set (i * 3) (.string (S p.k))).set (i * 3 + 1) (.string (S p.v))).set (i * 3 + 2) (.bool p.g)
  | [], _, _, h => by cases h
  | q :: l, 0, p, _ => rfl
  | q :: l, i + 1, p, h => by
    have ih := prsC_set l i p (by simpa using h)
    rw [List.set_cons_succ]
    show prC q ++ prsC (l.set i p) = _
    rw [ih]
    have e1 : (i + 1) * 3 = (prC q).length + i * 3 := by show _ = 3 + i * 3; omega
    have e2 : (i + 1) * 3 + 1 = (prC q).length + (i * 3 + 1) := by show _ = 3 + _; omega
    have e3 : (i + 1) * 3 + 2 = (prC q).length + (i * 3 + 2) := by show _ = 3 + _; omega
    show _ = (((prC q ++ prsC l).set _ _).set _ _).set _ _
    rw [e3, e2, e1, List.set_append_right _ _ (by omega), List.set_append_right _ _ (by omega), List.set_append_right _ _ (by omega)]
    congr 1
    rw [Nat.add_sub_cancel_left, Nat.add_sub_cancel_left, Nat.add_sub_cancel_left]
theorem Arr.put {w : World} {g : Nat} {l : List Pr} (h : Arr w g l) (i : Nat) (hi : i < l.length) (p : Pr) : Arr (((w.setCell ⟨g, i * 3, none⟩ (.string (S p.k))).setCell ⟨g, i * 3 + 1, none⟩ (.string (S p.v))).setCell ⟨g, i * 3 + 2, none⟩ (.bool p.g)) g (l.set i p) := by
  obtain ⟨cur, hb, hc⟩ := h
  refine ⟨_, ((hb.set (i * 3) _).set (i * 3 + 1) _).set (i * 3 + 2) _, fun j u hu => ?_⟩
  rw [prsC_set l i p hi] at hu
  have key : ∀ (xs : List Value) (cs : Array Value) (m : Nat) (x : Value), (∀ (j : Nat) (u : Value), xs[j]? = some u → cs[j]? = some u) → ∀ (j : Nat) (u : Value), (xs.set m x)[j]? = some u → (cs.setIfInBounds m x)[j]? = some u := fun xs cs m x hx j u hu => by
    by_cases e : m = j
    · subst e
      rw [List.getElem?_set_self'] at hu
      have hm : m < xs.length := by
        apply Classical.byContradiction
        intro hn
        rw [List.getElem?_eq_none (by omega)] at hu
        cases hu
      rw [List.getElem?_eq_getElem hm] at hu
      have hcs := hx m _ (List.getElem?_eq_getElem hm)
      have hlt := (Array.getElem?_eq_some_iff.1 hcs).1
      rw [Array.getElem?_setIfInBounds_self_of_lt hlt]
      simpa using hu
    · rw [List.getElem?_set_ne e] at hu
      rw [Array.getElem?_setIfInBounds_ne e]
      exact hx j u hu
  exact key _ _ _ _ (key _ _ _ _ (key _ _ _ _ hc)) j u hu
theorem chd3 (w : World) (g a b c : Nat) (x y z : Value) : Chd (fun j => j = g) w (((w.setCell ⟨g, a, none⟩ x).setCell ⟨g, b, none⟩ y).setCell ⟨g, c, none⟩ z) := ((Chd.set w g a x).trans (Chd.set _ g b y)).trans (Chd.set _ g c z)
/-- A swap: what is kept. -/
structure Sw (W0 : World) (g i k : Nat) (L : List Pr) (pi pk : Pr) (l : Array Bool) (W : World) : Prop where
  chd : Chd (fun j => j = g) W0 W
  a : l.getD 13 false = false → Arr W g L
  b : l.getD 13 false = true → l.getD 15 false = false → Arr W g (L.set i pk)
  c : l.getD 15 false = true → Arr W g ((L.set i pk).set k pi)
theorem Sw.step {W0 : World} {g i k : Nat} {L : List Pr} {pi pk : Pr} {l : Array Bool} {W W' : World} (h : Sw W0 g i k L pi pk l W) (hn : Nx W W') {q : Nat} (hq : q ≠ 13 ∧ q ≠ 15) : Sw W0 g i k L pi pk (l.setIfInBounds q true) W' := by
  obtain ⟨h1, h2⟩ := hq
  refine ⟨h.chd.trans hn.chd, fun e => (h.a (getD_set_was e)).nx hn, fun e e2 => ?_, fun e => ?_⟩
  · rw [getD_set_other h1] at e; exact (h.b e (getD_set_was e2)).nx hn
  · rw [getD_set_other h2] at e; exact (h.c e).nx hn
section
variable {ops : Array Oper} {a0 : Act} {W0 : World} {Q : Exit → Act → World → Prop} {g n cc i k : Nat} {L : List Pr} {pi pk : Pr}
structure CSa (ops : Array Oper) (a0 : Act) (W0 : World) (g n cc i k : Nat) (L : List Pr) (pi pk : Pr) : Prop where
  hops : rops Try.f5 12 = ops
  hz : a0.tmps.size = 203
  z14 : a0.eval (.tmp 14) = .slice (some ⟨g, 0, none⟩) n cc
  z15 : a0.eval (.tmp 15) = .int .i64 (i : Int)
  z16 : a0.eval (.tmp 16) = .int .i64 (k : Int)
  ar : Arr W0 g L
  ii : i < n
  kk : k < n
  nn : L.length = n
  hi : L[i]? = some pi
  hk : L[k]? = some pk
def KSa (W0 : World) (g n cc i k : Nat) (L : List Pr) (pi pk : Pr) : List Kd := [Kd.eq (.slice (some ⟨g, 0, none⟩) n cc), Kd.eq (.int .i64 (i : Int)), Kd.eq (.slice (some ⟨g, 0, none⟩) n cc), Kd.eq (.int .i64 (k : Int)), Kd.eq (.slice (some ⟨g, 0, none⟩) n cc), Kd.eq (.int .i64 (k : Int)), Kd.eq (.pointer (some ⟨g, k * 3, none⟩)), Kd.eq (.agg #[.string (S pk.k), .string (S pk.v), .bool pk.g]), Kd.eq (.slice (some ⟨g, 0, none⟩) n cc), Kd.eq (.int .i64 (i : Int)), Kd.eq (.pointer (some ⟨g, i * 3, none⟩)), Kd.eq (.agg #[.string (S pi.k), .string (S pi.v), .bool pi.g]), Kd.eq (.pointer (some ⟨g, i * 3, none⟩)), Kd.any, Kd.eq (.pointer (some ⟨g, k * 3, none⟩)), Kd.any]
/-- What is kept. -/
abbrev ISa (W0 : World) (g n cc i k : Nat) (L : List Pr) (pi pk : Pr) : Array Bool → World → Prop := Sw W0 g i k L pi pk
theorem hSa_0 (c : CSa ops a0 W0 g n cc i k L pi pk) : ops[0]? = some { dst := some 86, op := .move (.tmp 14), type := 33, pos := "law.go:83", after := #[], guard := none } := by rw [← c.hops]; rfl
theorem hSa_1 (c : CSa ops a0 W0 g n cc i k L pi pk) : ops[1]? = some { dst := some 87, op := .move (.tmp 15), type := 3, pos := "law.go:83", after := #[], guard := none } := by rw [← c.hops]; rfl
theorem hSa_2 (c : CSa ops a0 W0 g n cc i k L pi pk) : ops[2]? = some { dst := some 88, op := .move (.tmp 14), type := 33, pos := "law.go:83", after := #[{ on := 13, ground := .gcOnly .lateStores }], guard := none } := by rw [← c.hops]; rfl
theorem hSa_3 (c : CSa ops a0 W0 g n cc i k L pi pk) : ops[3]? = some { dst := some 89, op := .move (.tmp 16), type := 3, pos := "law.go:83", after := #[{ on := 13, ground := .gcOnly .lateStores }], guard := none } := by rw [← c.hops]; rfl
theorem hSa_4 (c : CSa ops a0 W0 g n cc i k L pi pk) : ops[4]? = some { dst := some 90, op := .move (.tmp 14), type := 33, pos := "law.go:83", after := #[], guard := none } := by rw [← c.hops]; rfl
theorem hSa_5 (c : CSa ops a0 W0 g n cc i k L pi pk) : ops[5]? = some { dst := some 91, op := .move (.tmp 16), type := 3, pos := "law.go:83", after := #[], guard := none } := by rw [← c.hops]; rfl
theorem hSa_6 (c : CSa ops a0 W0 g n cc i k L pi pk) : ops[6]? = some { dst := some 92, op := .indexAddr 33 (.tmp 90) (.tmp 91), type := 0, pos := "law.go:83", after := #[{ on := 4, ground := .data }, { on := 5, ground := .data }], guard := none } := by rw [← c.hops]; rfl
theorem hSa_7 (c : CSa ops a0 W0 g n cc i k L pi pk) : ops[7]? = some { dst := some 93, op := .load 40 (.tmp 92), type := 40, pos := "law.go:83", after := #[{ on := 6, ground := .data }], guard := none } := by rw [← c.hops]; rfl
theorem hSa_8 (c : CSa ops a0 W0 g n cc i k L pi pk) : ops[8]? = some { dst := some 94, op := .move (.tmp 14), type := 33, pos := "law.go:83", after := #[], guard := none } := by rw [← c.hops]; rfl
theorem hSa_9 (c : CSa ops a0 W0 g n cc i k L pi pk) : ops[9]? = some { dst := some 95, op := .move (.tmp 15), type := 3, pos := "law.go:83", after := #[], guard := none } := by rw [← c.hops]; rfl
theorem hSa_10 (c : CSa ops a0 W0 g n cc i k L pi pk) : ops[10]? = some { dst := some 96, op := .indexAddr 33 (.tmp 94) (.tmp 95), type := 0, pos := "law.go:83", after := #[{ on := 8, ground := .data }, { on := 9, ground := .data }], guard := none } := by rw [← c.hops]; rfl
theorem hSa_11 (c : CSa ops a0 W0 g n cc i k L pi pk) : ops[11]? = some { dst := some 97, op := .load 40 (.tmp 96), type := 40, pos := "law.go:83", after := #[{ on := 10, ground := .data }], guard := none } := by rw [← c.hops]; rfl
theorem hSa_12 (c : CSa ops a0 W0 g n cc i k L pi pk) : ops[12]? = some { dst := some 98, op := .indexAddr 33 (.tmp 86) (.tmp 87), type := 0, pos := "law.go:83", after := #[{ on := 0, ground := .data }, { on := 1, ground := .data }, { on := 0, ground := .phase }, { on := 1, ground := .phase }, { on := 2, ground := .textOnly .lateStores }, { on := 3, ground := .textOnly .lateStores }, { on := 4, ground := .phase }, { on := 5, ground := .phase }, { on := 6, ground := .phase }, { on := 7, ground := .phase }, { on := 8, ground := .textOnly .lateStores }, { on := 9, ground := .textOnly .lateStores }, { on := 10, ground := .textOnly .lateStoresUnsure }, { on := 11, ground := .phase }], guard := none } := by rw [← c.hops]; rfl
theorem hSa_13 (c : CSa ops a0 W0 g n cc i k L pi pk) : ops[13]? = some { dst := none, op := .store 40 (.tmp 98) (.tmp 93), type := 0, pos := "law.go:83", after := #[{ on := 12, ground := .data }, { on := 7, ground := .data }, { on := 0, ground := .phase }, { on := 1, ground := .phase }, { on := 2, ground := .textOnly .lateStores }, { on := 3, ground := .textOnly .lateStores }, { on := 4, ground := .phase }, { on := 5, ground := .phase }, { on := 6, ground := .phase }, { on := 7, ground := .phase }, { on := 8, ground := .textOnly .lateStores }, { on := 9, ground := .textOnly .lateStores }, { on := 10, ground := .textOnly .lateStoresUnsure }, { on := 11, ground := .phase }], guard := none } := by rw [← c.hops]; rfl
theorem hSa_14 (c : CSa ops a0 W0 g n cc i k L pi pk) : ops[14]? = some { dst := some 99, op := .indexAddr 33 (.tmp 88) (.tmp 89), type := 0, pos := "law.go:83", after := #[{ on := 2, ground := .data }, { on := 3, ground := .data }, { on := 0, ground := .phase }, { on := 1, ground := .phase }, { on := 2, ground := .phase }, { on := 3, ground := .phase }, { on := 4, ground := .phase }, { on := 5, ground := .phase }, { on := 6, ground := .phase }, { on := 7, ground := .phase }, { on := 8, ground := .phase }, { on := 9, ground := .phase }, { on := 10, ground := .phase }, { on := 11, ground := .phase }, { on := 12, ground := .phase }, { on := 13, ground := .phase }], guard := none } := by rw [← c.hops]; rfl
theorem hSa_15 (c : CSa ops a0 W0 g n cc i k L pi pk) : ops[15]? = some { dst := none, op := .store 40 (.tmp 99) (.tmp 97), type := 0, pos := "law.go:83", after := #[{ on := 14, ground := .data }, { on := 11, ground := .data }, { on := 13, ground := .chain }, { on := 0, ground := .phase }, { on := 1, ground := .phase }, { on := 2, ground := .phase }, { on := 3, ground := .phase }, { on := 4, ground := .phase }, { on := 5, ground := .phase }, { on := 6, ground := .phase }, { on := 7, ground := .phase }, { on := 8, ground := .phase }, { on := 9, ground := .phase }, { on := 10, ground := .phase }, { on := 11, ground := .phase }, { on := 12, ground := .phase }, { on := 13, ground := .phase }], guard := none } := by rw [← c.hops]; rfl
theorem huSa (c : CSa ops a0 W0 g n cc i k L pi pk) : dstB ops = true := by rw [← c.hops]; kernel_rfl
theorem hoSa (c : CSa ops a0 W0 g n cc i k L pi pk) : ordB ops = true := by rw [← c.hops]; kernel_rfl
theorem hnSa (c : CSa ops a0 W0 g n cc i k L pi pk) : ops.size = 16 := by rw [← c.hops]; rfl
theorem hdSa (c : CSa ops a0 W0 g n cc i k L pi pk) : dsts ops = [86, 87, 88, 89, 90, 91, 92, 93, 94, 95, 96, 97, 98, 99] := by rw [← c.hops]; rfl
theorem oSa_14 (c : CSa ops a0 W0 g n cc i k L pi pk) : oldB ops 14 = true := by rw [← c.hops]; kernel_rfl
theorem oSa_15 (c : CSa ops a0 W0 g n cc i k L pi pk) : oldB ops 15 = true := by rw [← c.hops]; kernel_rfl
theorem oSa_16 (c : CSa ops a0 W0 g n cc i k L pi pk) : oldB ops 16 = true := by rw [← c.hops]; kernel_rfl
theorem ivSa (c : CSa ops a0 W0 g n cc i k L pi pk) {l : Array Bool} {W W' : World} (h : ISa W0 g n cc i k L pi pk l W) (hn : Nx W W') {q : Nat} (hi : q ≠ 13 ∧ q ≠ 15) : ISa W0 g n cc i k L pi pk (l.setIfInBounds q true) W' := Sw.step h hn hi
theorem nxSa (c : CSa ops a0 W0 g n cc i k L pi pk) {l : Array Bool} {W : World} (h : ISa W0 g n cc i k L pi pk l W) (h6 : l.getD 13 false = false) : l.getD 13 false = false := h6
theorem sSa_0 (c : CSa ops a0 W0 g n cc i k L pi pk) : Stp Try.prog ops Q a0 (KSa W0 g n cc i k L pi pk) (ISa W0 g n cc i k L pi pk) 0 := stp_val (huSa c) (hSa_0 c) rfl (by rw [c.hz]; decide) fun l a W hF hn hd => ⟨want_none rfl, by
    have e14 : a.eval (.tmp 14) = .slice (some ⟨g, 0, none⟩) n cc := (hF.old (oSa_14 c)).trans c.z14
    exact ⟨.slice (some ⟨g, 0, none⟩) n cc, W, by show Result.ok (Next.value (a.eval _)) W = _; rw [e14], rfl, Nx.refl W, (ivSa c hF.inv (Nx.refl W) (q := 0) (by decide))⟩⟩
theorem sSa_1 (c : CSa ops a0 W0 g n cc i k L pi pk) : Stp Try.prog ops Q a0 (KSa W0 g n cc i k L pi pk) (ISa W0 g n cc i k L pi pk) 1 := stp_val (huSa c) (hSa_1 c) rfl (by rw [c.hz]; decide) fun l a W hF hn hd => ⟨want_none rfl, by
    have e15 : a.eval (.tmp 15) = .int .i64 (i : Int) := (hF.old (oSa_15 c)).trans c.z15
    exact ⟨.int .i64 (i : Int), W, by show Result.ok (Next.value (a.eval _)) W = _; rw [e15], rfl, Nx.refl W, (ivSa c hF.inv (Nx.refl W) (q := 1) (by decide))⟩⟩
theorem sSa_2 (c : CSa ops a0 W0 g n cc i k L pi pk) : Stp Try.prog ops Q a0 (KSa W0 g n cc i k L pi pk) (ISa W0 g n cc i k L pi pk) 2 := stp_val (huSa c) (hSa_2 c) rfl (by rw [c.hz]; decide) fun l a W hF hn hd => ⟨want_none rfl, by
    have e14 : a.eval (.tmp 14) = .slice (some ⟨g, 0, none⟩) n cc := (hF.old (oSa_14 c)).trans c.z14
    exact ⟨.slice (some ⟨g, 0, none⟩) n cc, W, by show Result.ok (Next.value (a.eval _)) W = _; rw [e14], rfl, Nx.refl W, (ivSa c hF.inv (Nx.refl W) (q := 2) (by decide))⟩⟩
theorem sSa_3 (c : CSa ops a0 W0 g n cc i k L pi pk) : Stp Try.prog ops Q a0 (KSa W0 g n cc i k L pi pk) (ISa W0 g n cc i k L pi pk) 3 := stp_val (huSa c) (hSa_3 c) rfl (by rw [c.hz]; decide) fun l a W hF hn hd => ⟨want_none rfl, by
    have e16 : a.eval (.tmp 16) = .int .i64 (k : Int) := (hF.old (oSa_16 c)).trans c.z16
    exact ⟨.int .i64 (k : Int), W, by show Result.ok (Next.value (a.eval _)) W = _; rw [e16], rfl, Nx.refl W, (ivSa c hF.inv (Nx.refl W) (q := 3) (by decide))⟩⟩
theorem sSa_4 (c : CSa ops a0 W0 g n cc i k L pi pk) : Stp Try.prog ops Q a0 (KSa W0 g n cc i k L pi pk) (ISa W0 g n cc i k L pi pk) 4 := stp_val (huSa c) (hSa_4 c) rfl (by rw [c.hz]; decide) fun l a W hF hn hd => ⟨want_none rfl, by
    have e14 : a.eval (.tmp 14) = .slice (some ⟨g, 0, none⟩) n cc := (hF.old (oSa_14 c)).trans c.z14
    exact ⟨.slice (some ⟨g, 0, none⟩) n cc, W, by show Result.ok (Next.value (a.eval _)) W = _; rw [e14], rfl, Nx.refl W, (ivSa c hF.inv (Nx.refl W) (q := 4) (by decide))⟩⟩
theorem sSa_5 (c : CSa ops a0 W0 g n cc i k L pi pk) : Stp Try.prog ops Q a0 (KSa W0 g n cc i k L pi pk) (ISa W0 g n cc i k L pi pk) 5 := stp_val (huSa c) (hSa_5 c) rfl (by rw [c.hz]; decide) fun l a W hF hn hd => ⟨want_none rfl, by
    have e16 : a.eval (.tmp 16) = .int .i64 (k : Int) := (hF.old (oSa_16 c)).trans c.z16
    exact ⟨.int .i64 (k : Int), W, by show Result.ok (Next.value (a.eval _)) W = _; rw [e16], rfl, Nx.refl W, (ivSa c hF.inv (Nx.refl W) (q := 5) (by decide))⟩⟩
theorem sSa_6 (c : CSa ops a0 W0 g n cc i k L pi pk) : Stp Try.prog ops Q a0 (KSa W0 g n cc i k L pi pk) (ISa W0 g n cc i k L pi pk) 6 := stp_val (huSa c) (hSa_6 c) rfl (by rw [c.hz]; decide) fun l a W hF hn hd => ⟨want_none rfl, by
    have e90 : a.eval (.tmp 90) = .slice (some ⟨g, 0, none⟩) n cc := by obtain ⟨v, e, p⟩ := hF.get (hSa_4 c) rfl (hd.at 4 (by rfl)); exact e.trans p
    have e91 : a.eval (.tmp 91) = .int .i64 (k : Int) := by obtain ⟨v, e, p⟩ := hF.get (hSa_5 c) rfl (hd.at 5 (by rfl)); exact e.trans p
    have x1 := c.kk; have x2 : (0 : Int) ≤ (k : Int) := Int.natCast_nonneg k; have x3 : ((k : Int) < (n : Int)) := by omega
    refine ⟨.pointer (some ⟨g, k * 3, none⟩), W, ?_, rfl, Nx.refl W, (ivSa c hF.inv (Nx.refl W) (q := 6) (by decide))⟩
    show (execOp a.eval _).run Try.prog W = _
    simp only [execOp, e90, e91]
    simp [go_sem, x2, x3]⟩
theorem sSa_7 (c : CSa ops a0 W0 g n cc i k L pi pk) : Stp Try.prog ops Q a0 (KSa W0 g n cc i k L pi pk) (ISa W0 g n cc i k L pi pk) 7 := stp_val (huSa c) (hSa_7 c) rfl (by rw [c.hz]; decide) fun l a W hF hn hd => ⟨want_none rfl, by
    have e92 : a.eval (.tmp 92) = .pointer (some ⟨g, k * 3, none⟩) := by obtain ⟨v, e, p⟩ := hF.get (hSa_6 c) rfl (hd.at 6 (by rfl)); exact e.trans p
    obtain ⟨m0, m1, m2⟩ := (hF.inv.a (hF.off hn (hSa_13 c) (by rfl))).at_ c.hk
    refine ⟨.agg #[.string (S pk.k), .string (S pk.v), .bool pk.g], W, ?_, rfl, Nx.refl W, (ivSa c hF.inv (Nx.refl W) (q := 7) (by decide))⟩
    show (execOp a.eval _).run Try.prog W = _
    simp only [execOp, e92]
    simp [go_sem, m0, m1, m2]⟩
theorem sSa_8 (c : CSa ops a0 W0 g n cc i k L pi pk) : Stp Try.prog ops Q a0 (KSa W0 g n cc i k L pi pk) (ISa W0 g n cc i k L pi pk) 8 := stp_val (huSa c) (hSa_8 c) rfl (by rw [c.hz]; decide) fun l a W hF hn hd => ⟨want_none rfl, by
    have e14 : a.eval (.tmp 14) = .slice (some ⟨g, 0, none⟩) n cc := (hF.old (oSa_14 c)).trans c.z14
    exact ⟨.slice (some ⟨g, 0, none⟩) n cc, W, by show Result.ok (Next.value (a.eval _)) W = _; rw [e14], rfl, Nx.refl W, (ivSa c hF.inv (Nx.refl W) (q := 8) (by decide))⟩⟩
theorem sSa_9 (c : CSa ops a0 W0 g n cc i k L pi pk) : Stp Try.prog ops Q a0 (KSa W0 g n cc i k L pi pk) (ISa W0 g n cc i k L pi pk) 9 := stp_val (huSa c) (hSa_9 c) rfl (by rw [c.hz]; decide) fun l a W hF hn hd => ⟨want_none rfl, by
    have e15 : a.eval (.tmp 15) = .int .i64 (i : Int) := (hF.old (oSa_15 c)).trans c.z15
    exact ⟨.int .i64 (i : Int), W, by show Result.ok (Next.value (a.eval _)) W = _; rw [e15], rfl, Nx.refl W, (ivSa c hF.inv (Nx.refl W) (q := 9) (by decide))⟩⟩
theorem sSa_10 (c : CSa ops a0 W0 g n cc i k L pi pk) : Stp Try.prog ops Q a0 (KSa W0 g n cc i k L pi pk) (ISa W0 g n cc i k L pi pk) 10 := stp_val (huSa c) (hSa_10 c) rfl (by rw [c.hz]; decide) fun l a W hF hn hd => ⟨want_none rfl, by
    have e94 : a.eval (.tmp 94) = .slice (some ⟨g, 0, none⟩) n cc := by obtain ⟨v, e, p⟩ := hF.get (hSa_8 c) rfl (hd.at 8 (by rfl)); exact e.trans p
    have e95 : a.eval (.tmp 95) = .int .i64 (i : Int) := by obtain ⟨v, e, p⟩ := hF.get (hSa_9 c) rfl (hd.at 9 (by rfl)); exact e.trans p
    have x1 := c.ii; have x2 : (0 : Int) ≤ (i : Int) := Int.natCast_nonneg i; have x3 : ((i : Int) < (n : Int)) := by omega
    refine ⟨.pointer (some ⟨g, i * 3, none⟩), W, ?_, rfl, Nx.refl W, (ivSa c hF.inv (Nx.refl W) (q := 10) (by decide))⟩
    show (execOp a.eval _).run Try.prog W = _
    simp only [execOp, e94, e95]
    simp [go_sem, x2, x3]⟩
theorem sSa_11 (c : CSa ops a0 W0 g n cc i k L pi pk) : Stp Try.prog ops Q a0 (KSa W0 g n cc i k L pi pk) (ISa W0 g n cc i k L pi pk) 11 := stp_val (huSa c) (hSa_11 c) rfl (by rw [c.hz]; decide) fun l a W hF hn hd => ⟨want_none rfl, by
    have e96 : a.eval (.tmp 96) = .pointer (some ⟨g, i * 3, none⟩) := by obtain ⟨v, e, p⟩ := hF.get (hSa_10 c) rfl (hd.at 10 (by rfl)); exact e.trans p
    obtain ⟨m0, m1, m2⟩ := (hF.inv.a (hF.off hn (hSa_13 c) (by rfl))).at_ c.hi
    refine ⟨.agg #[.string (S pi.k), .string (S pi.v), .bool pi.g], W, ?_, rfl, Nx.refl W, (ivSa c hF.inv (Nx.refl W) (q := 11) (by decide))⟩
    show (execOp a.eval _).run Try.prog W = _
    simp only [execOp, e96]
    simp [go_sem, m0, m1, m2]⟩
theorem sSa_12 (c : CSa ops a0 W0 g n cc i k L pi pk) : Stp Try.prog ops Q a0 (KSa W0 g n cc i k L pi pk) (ISa W0 g n cc i k L pi pk) 12 := stp_val (huSa c) (hSa_12 c) rfl (by rw [c.hz]; decide) fun l a W hF hn hd => ⟨want_none rfl, by
    have e86 : a.eval (.tmp 86) = .slice (some ⟨g, 0, none⟩) n cc := by obtain ⟨v, e, p⟩ := hF.get (hSa_0 c) rfl (hd.at 0 (by rfl)); exact e.trans p
    have e87 : a.eval (.tmp 87) = .int .i64 (i : Int) := by obtain ⟨v, e, p⟩ := hF.get (hSa_1 c) rfl (hd.at 1 (by rfl)); exact e.trans p
    have x1 := c.ii; have x2 : (0 : Int) ≤ (i : Int) := Int.natCast_nonneg i; have x3 : ((i : Int) < (n : Int)) := by omega
    refine ⟨.pointer (some ⟨g, i * 3, none⟩), W, ?_, rfl, Nx.refl W, (ivSa c hF.inv (Nx.refl W) (q := 12) (by decide))⟩
    show (execOp a.eval _).run Try.prog W = _
    simp only [execOp, e86, e87]
    simp [go_sem, x2, x3]⟩
theorem sSa_13 (c : CSa ops a0 W0 g n cc i k L pi pk) : Stp Try.prog ops Q a0 (KSa W0 g n cc i k L pi pk) (ISa W0 g n cc i k L pi pk) 13 := stp_skip (hSa_13 c) rfl fun l a W hF hn hd => ⟨want_none rfl, by
    have e98 : a.eval (.tmp 98) = .pointer (some ⟨g, i * 3, none⟩) := by obtain ⟨v, e, p⟩ := hF.get (hSa_12 c) rfl (hd.at 12 (by rfl)); exact e.trans p
    have e93 : a.eval (.tmp 93) = .agg #[.string (S pk.k), .string (S pk.v), .bool pk.g] := by obtain ⟨v, e, p⟩ := hF.get (hSa_7 c) rfl (hd.at 7 (by rfl)); exact e.trans p
    have h15 := hF.off hn (hSa_15 c) (by rfl)
    have ha := hF.inv.a hn
    obtain ⟨m0, m1, m2⟩ := ha.at_ c.hi
    obtain ⟨cur, hb, hcur⟩ := ha
    have f0 := hb.frozen (i * 3)
    have f1 := hb.frozen (i * 3 + 1)
    have f2 := hb.frozen (i * 3 + 2)
    have hil : i < L.length := by rw [c.nn]; exact c.ii
    have hp := Arr.put ⟨cur, hb, hcur⟩ i hil pk
    refine ⟨((W.setCell ⟨g, i * 3, none⟩ (.string (S pk.k))).setCell ⟨g, i * 3 + 1, none⟩ (.string (S pk.v))).setCell ⟨g, i * 3 + 2, none⟩ (.bool pk.g), ?_, fun j v hne hl => match j, hne, hl with | 0, hne, hl => fun h => h | 1, hne, hl => fun h => h | 2, hne, hl => fun h => h | 3, hne, hl => fun h => h | 4, hne, hl => fun h => h | 5, hne, hl => fun h => h | 6, hne, hl => fun h => h | 7, hne, hl => fun h => h | 8, hne, hl => fun h => h | 9, hne, hl => fun h => h | 10, hne, hl => fun h => h | 11, hne, hl => fun h => h | 12, hne, hl => fun h => h | 13, hne, hl => fun h => absurd rfl hne | 14, hne, hl => fun h => h | 15, hne, hl => fun h => h | (k + 16), _, _ => fun _ => trivial, hF.inv.chd.trans (chd3 _ _ _ _ _ _ _ _), fun e => ?_, fun _ _ => hp, fun e => ?_⟩
    · show (execOp a.eval _).run Try.prog W = _
      simp only [execOp, e98, e93]
      simp [go_sem, m0, m1, m2, f0, f1, f2]
    · rw [getD_set_self (hF.lt (hSa_13 c))] at e; cases e
    · rw [getD_set_other (by decide), h15] at e; cases e⟩
theorem sSa_14 (c : CSa ops a0 W0 g n cc i k L pi pk) : Stp Try.prog ops Q a0 (KSa W0 g n cc i k L pi pk) (ISa W0 g n cc i k L pi pk) 14 := stp_val (huSa c) (hSa_14 c) rfl (by rw [c.hz]; decide) fun l a W hF hn hd => ⟨want_none rfl, by
    have e88 : a.eval (.tmp 88) = .slice (some ⟨g, 0, none⟩) n cc := by obtain ⟨v, e, p⟩ := hF.get (hSa_2 c) rfl (hd.at 2 (by rfl)); exact e.trans p
    have e89 : a.eval (.tmp 89) = .int .i64 (k : Int) := by obtain ⟨v, e, p⟩ := hF.get (hSa_3 c) rfl (hd.at 3 (by rfl)); exact e.trans p
    have x1 := c.kk; have x2 : (0 : Int) ≤ (k : Int) := Int.natCast_nonneg k; have x3 : ((k : Int) < (n : Int)) := by omega
    refine ⟨.pointer (some ⟨g, k * 3, none⟩), W, ?_, rfl, Nx.refl W, (ivSa c hF.inv (Nx.refl W) (q := 14) (by decide))⟩
    show (execOp a.eval _).run Try.prog W = _
    simp only [execOp, e88, e89]
    simp [go_sem, x2, x3]⟩
theorem sSa_15 (c : CSa ops a0 W0 g n cc i k L pi pk) : Stp Try.prog ops Q a0 (KSa W0 g n cc i k L pi pk) (ISa W0 g n cc i k L pi pk) 15 := stp_skip (hSa_15 c) rfl fun l a W hF hn hd => ⟨want_none rfl, by
    have e99 : a.eval (.tmp 99) = .pointer (some ⟨g, k * 3, none⟩) := by obtain ⟨v, e, p⟩ := hF.get (hSa_14 c) rfl (hd.at 14 (by rfl)); exact e.trans p
    have e97 : a.eval (.tmp 97) = .agg #[.string (S pi.k), .string (S pi.v), .bool pi.g] := by obtain ⟨v, e, p⟩ := hF.get (hSa_11 c) rfl (hd.at 11 (by rfl)); exact e.trans p
    have h13 := hd.at 13 (by rfl)
    have ha := hF.inv.b h13 hn
    have hil : i < L.length := by rw [c.nn]; exact c.ii
    have hkl : k < (L.set i pk).length := by rw [List.length_set, c.nn]; exact c.kk
    obtain ⟨m0, m1, m2⟩ := ha.at_ (List.getElem?_eq_getElem hkl)
    obtain ⟨cur, hb, hcur⟩ := ha
    have f0 := hb.frozen (k * 3)
    have f1 := hb.frozen (k * 3 + 1)
    have f2 := hb.frozen (k * 3 + 2)
    have hp := Arr.put ⟨cur, hb, hcur⟩ k hkl pi
    refine ⟨((W.setCell ⟨g, k * 3, none⟩ (.string (S pi.k))).setCell ⟨g, k * 3 + 1, none⟩ (.string (S pi.v))).setCell ⟨g, k * 3 + 2, none⟩ (.bool pi.g), ?_, fun j v hne hl => match j, hne, hl with | 0, hne, hl => fun h => h | 1, hne, hl => fun h => h | 2, hne, hl => fun h => h | 3, hne, hl => fun h => h | 4, hne, hl => fun h => h | 5, hne, hl => fun h => h | 6, hne, hl => fun h => h | 7, hne, hl => fun h => h | 8, hne, hl => fun h => h | 9, hne, hl => fun h => h | 10, hne, hl => fun h => h | 11, hne, hl => fun h => h | 12, hne, hl => fun h => h | 13, hne, hl => fun h => h | 14, hne, hl => fun h => h | 15, hne, hl => fun h => absurd rfl hne | (k + 16), _, _ => fun _ => trivial, hF.inv.chd.trans (chd3 _ _ _ _ _ _ _ _), fun e => ?_, fun _ e => ?_, fun _ => hp⟩
    · show (execOp a.eval _).run Try.prog W = _
      simp only [execOp, e99, e97]
      simp [go_sem, m0, m1, m2, f0, f1, f2]
    · rw [getD_set_other (by decide), h13] at e; cases e
    · rw [getD_set_self (hF.lt (hSa_15 c))] at e; cases e⟩
theorem rgSa (c : CSa ops a0 W0 g n cc i k L pi pk) {id : Nat} (fin : ∀ (x86 x87 x88 x89 x90 x91 x92 x93 x94 x95 x96 x97 x98 x99 : Value) (W : World), Chd (fun j => j = g) W0 W → Arr W g ((L.set i pk).set k pi) → Q .normal { tmps := ((((((((((((((a0.tmps.setIfInBounds 86 x86).setIfInBounds 87 x87).setIfInBounds 88 x88).setIfInBounds 89 x89).setIfInBounds 90 x90).setIfInBounds 91 x91).setIfInBounds 92 x92).setIfInBounds 93 x93).setIfInBounds 94 x94).setIfInBounds 95 x95).setIfInBounds 96 x96).setIfInBounds 97 x97).setIfInBounds 98 x98).setIfInBounds 99 x99), defers := a0.defers } W) : (Code.region id ops true).wp Try.prog Q a0 W0 := by
  refine flows (K := (KSa W0 g n cc i k L pi pk)) (Inv := (ISa W0 g n cc i k L pi pk)) (by kernel_rfl) (hoSa c) (hnSa c) ⟨(Nx.refl W0).drew.chd, fun _ => c.ar.nx (Nx.refl W0).drew, (fun e => by rw [replicate_off] at e; cases e), fun e => by rw [replicate_off] at e; cases e⟩ ⟨⟨⟨⟨⟨⟨⟨⟨⟨⟨⟨⟨⟨⟨⟨⟨trivial, sSa_0 c⟩, sSa_1 c⟩, sSa_2 c⟩, sSa_3 c⟩, sSa_4 c⟩, sSa_5 c⟩, sSa_6 c⟩, sSa_7 c⟩, sSa_8 c⟩, sSa_9 c⟩, sSa_10 c⟩, sSa_11 c⟩, sSa_12 c⟩, sSa_13 c⟩, sSa_14 c⟩, sSa_15 c⟩ fun l a W hF hl => ?_
  have f := hF.form
  rw [hdSa c] at f
  simp only [List.foldl] at f
  rw [f]
  exact fin _ _ _ _ _ _ _ _ _ _ _ _ _ _ W  hF.inv.chd (hF.inv.c (hl 15 (by decide)))
theorem rgSaL {t0_ t1_ t2_ t3_ t4_ t5_ t6_ t7_ t8_ t9_ t10_ t11_ t12_ t13_ t14_ t15_ t16_ t17_ t18_ t19_ t20_ t21_ t22_ t23_ t24_ t25_ t26_ t27_ t28_ t29_ t30_ t31_ t32_ t33_ t34_ t35_ t36_ t37_ t38_ t39_ t40_ t41_ t42_ t43_ t44_ t45_ t46_ t47_ t48_ t49_ t50_ t51_ t52_ t53_ t54_ t55_ t56_ t57_ t58_ t59_ t60_ t61_ t62_ t63_ t64_ t65_ t66_ t67_ t68_ t69_ t70_ t71_ t72_ t73_ t74_ t75_ t76_ t77_ t78_ t79_ t80_ t81_ t82_ t83_ t84_ t85_ t86_ t87_ t88_ t89_ t90_ t91_ t92_ t93_ t94_ t95_ t96_ t97_ t98_ t99_ t100_ t101_ t102_ t103_ t104_ t105_ t106_ t107_ t108_ t109_ t110_ t111_ t112_ t113_ t114_ t115_ t116_ t117_ t118_ t119_ t120_ t121_ t122_ t123_ t124_ t125_ t126_ t127_ t128_ t129_ t130_ t131_ t132_ t133_ t134_ t135_ t136_ t137_ t138_ t139_ t140_ t141_ t142_ t143_ t144_ t145_ t146_ t147_ t148_ t149_ t150_ t151_ t152_ t153_ t154_ t155_ t156_ t157_ t158_ t159_ t160_ t161_ t162_ t163_ t164_ t165_ t166_ t167_ t168_ t169_ t170_ t171_ t172_ t173_ t174_ t175_ t176_ t177_ t178_ t179_ t180_ t181_ t182_ t183_ t184_ t185_ t186_ t187_ t188_ t189_ t190_ t191_ t192_ t193_ t194_ t195_ t196_ t197_ t198_ t199_ t200_ t201_ t202_ : Value} {d_ : List Deferred} (c : CSa ops { tmps := #[t0_, t1_, t2_, t3_, t4_, t5_, t6_, t7_, t8_, t9_, t10_, t11_, t12_, t13_, t14_, t15_, t16_, t17_, t18_, t19_, t20_, t21_, t22_, t23_, t24_, t25_, t26_, t27_, t28_, t29_, t30_, t31_, t32_, t33_, t34_, t35_, t36_, t37_, t38_, t39_, t40_, t41_, t42_, t43_, t44_, t45_, t46_, t47_, t48_, t49_, t50_, t51_, t52_, t53_, t54_, t55_, t56_, t57_, t58_, t59_, t60_, t61_, t62_, t63_, t64_, t65_, t66_, t67_, t68_, t69_, t70_, t71_, t72_, t73_, t74_, t75_, t76_, t77_, t78_, t79_, t80_, t81_, t82_, t83_, t84_, t85_, t86_, t87_, t88_, t89_, t90_, t91_, t92_, t93_, t94_, t95_, t96_, t97_, t98_, t99_, t100_, t101_, t102_, t103_, t104_, t105_, t106_, t107_, t108_, t109_, t110_, t111_, t112_, t113_, t114_, t115_, t116_, t117_, t118_, t119_, t120_, t121_, t122_, t123_, t124_, t125_, t126_, t127_, t128_, t129_, t130_, t131_, t132_, t133_, t134_, t135_, t136_, t137_, t138_, t139_, t140_, t141_, t142_, t143_, t144_, t145_, t146_, t147_, t148_, t149_, t150_, t151_, t152_, t153_, t154_, t155_, t156_, t157_, t158_, t159_, t160_, t161_, t162_, t163_, t164_, t165_, t166_, t167_, t168_, t169_, t170_, t171_, t172_, t173_, t174_, t175_, t176_, t177_, t178_, t179_, t180_, t181_, t182_, t183_, t184_, t185_, t186_, t187_, t188_, t189_, t190_, t191_, t192_, t193_, t194_, t195_, t196_, t197_, t198_, t199_, t200_, t201_, t202_], defers := d_ } W0 g n cc i k L pi pk) {id : Nat} (fin : ∀ (x86 x87 x88 x89 x90 x91 x92 x93 x94 x95 x96 x97 x98 x99 : Value) (W : World), Chd (fun j => j = g) W0 W → Arr W g ((L.set i pk).set k pi) → Q .normal { tmps := #[t0_, t1_, t2_, t3_, t4_, t5_, t6_, t7_, t8_, t9_, t10_, t11_, t12_, t13_, t14_, t15_, t16_, t17_, t18_, t19_, t20_, t21_, t22_, t23_, t24_, t25_, t26_, t27_, t28_, t29_, t30_, t31_, t32_, t33_, t34_, t35_, t36_, t37_, t38_, t39_, t40_, t41_, t42_, t43_, t44_, t45_, t46_, t47_, t48_, t49_, t50_, t51_, t52_, t53_, t54_, t55_, t56_, t57_, t58_, t59_, t60_, t61_, t62_, t63_, t64_, t65_, t66_, t67_, t68_, t69_, t70_, t71_, t72_, t73_, t74_, t75_, t76_, t77_, t78_, t79_, t80_, t81_, t82_, t83_, t84_, t85_, x86, x87, x88, x89, x90, x91, x92, x93, x94, x95, x96, x97, x98, x99, t100_, t101_, t102_, t103_, t104_, t105_, t106_, t107_, t108_, t109_, t110_, t111_, t112_, t113_, t114_, t115_, t116_, t117_, t118_, t119_, t120_, t121_, t122_, t123_, t124_, t125_, t126_, t127_, t128_, t129_, t130_, t131_, t132_, t133_, t134_, t135_, t136_, t137_, t138_, t139_, t140_, t141_, t142_, t143_, t144_, t145_, t146_, t147_, t148_, t149_, t150_, t151_, t152_, t153_, t154_, t155_, t156_, t157_, t158_, t159_, t160_, t161_, t162_, t163_, t164_, t165_, t166_, t167_, t168_, t169_, t170_, t171_, t172_, t173_, t174_, t175_, t176_, t177_, t178_, t179_, t180_, t181_, t182_, t183_, t184_, t185_, t186_, t187_, t188_, t189_, t190_, t191_, t192_, t193_, t194_, t195_, t196_, t197_, t198_, t199_, t200_, t201_, t202_], defers := d_ } W) : (Code.region id ops true).wp Try.prog Q { tmps := #[t0_, t1_, t2_, t3_, t4_, t5_, t6_, t7_, t8_, t9_, t10_, t11_, t12_, t13_, t14_, t15_, t16_, t17_, t18_, t19_, t20_, t21_, t22_, t23_, t24_, t25_, t26_, t27_, t28_, t29_, t30_, t31_, t32_, t33_, t34_, t35_, t36_, t37_, t38_, t39_, t40_, t41_, t42_, t43_, t44_, t45_, t46_, t47_, t48_, t49_, t50_, t51_, t52_, t53_, t54_, t55_, t56_, t57_, t58_, t59_, t60_, t61_, t62_, t63_, t64_, t65_, t66_, t67_, t68_, t69_, t70_, t71_, t72_, t73_, t74_, t75_, t76_, t77_, t78_, t79_, t80_, t81_, t82_, t83_, t84_, t85_, t86_, t87_, t88_, t89_, t90_, t91_, t92_, t93_, t94_, t95_, t96_, t97_, t98_, t99_, t100_, t101_, t102_, t103_, t104_, t105_, t106_, t107_, t108_, t109_, t110_, t111_, t112_, t113_, t114_, t115_, t116_, t117_, t118_, t119_, t120_, t121_, t122_, t123_, t124_, t125_, t126_, t127_, t128_, t129_, t130_, t131_, t132_, t133_, t134_, t135_, t136_, t137_, t138_, t139_, t140_, t141_, t142_, t143_, t144_, t145_, t146_, t147_, t148_, t149_, t150_, t151_, t152_, t153_, t154_, t155_, t156_, t157_, t158_, t159_, t160_, t161_, t162_, t163_, t164_, t165_, t166_, t167_, t168_, t169_, t170_, t171_, t172_, t173_, t174_, t175_, t176_, t177_, t178_, t179_, t180_, t181_, t182_, t183_, t184_, t185_, t186_, t187_, t188_, t189_, t190_, t191_, t192_, t193_, t194_, t195_, t196_, t197_, t198_, t199_, t200_, t201_, t202_], defers := d_ } W0 := by
  refine rgSa c ?_
  intro x86 x87 x88 x89 x90 x91 x92 x93 x94 x95 x96 x97 x98 x99 W
  have e : ((((((((((((((#[t0_, t1_, t2_, t3_, t4_, t5_, t6_, t7_, t8_, t9_, t10_, t11_, t12_, t13_, t14_, t15_, t16_, t17_, t18_, t19_, t20_, t21_, t22_, t23_, t24_, t25_, t26_, t27_, t28_, t29_, t30_, t31_, t32_, t33_, t34_, t35_, t36_, t37_, t38_, t39_, t40_, t41_, t42_, t43_, t44_, t45_, t46_, t47_, t48_, t49_, t50_, t51_, t52_, t53_, t54_, t55_, t56_, t57_, t58_, t59_, t60_, t61_, t62_, t63_, t64_, t65_, t66_, t67_, t68_, t69_, t70_, t71_, t72_, t73_, t74_, t75_, t76_, t77_, t78_, t79_, t80_, t81_, t82_, t83_, t84_, t85_, t86_, t87_, t88_, t89_, t90_, t91_, t92_, t93_, t94_, t95_, t96_, t97_, t98_, t99_, t100_, t101_, t102_, t103_, t104_, t105_, t106_, t107_, t108_, t109_, t110_, t111_, t112_, t113_, t114_, t115_, t116_, t117_, t118_, t119_, t120_, t121_, t122_, t123_, t124_, t125_, t126_, t127_, t128_, t129_, t130_, t131_, t132_, t133_, t134_, t135_, t136_, t137_, t138_, t139_, t140_, t141_, t142_, t143_, t144_, t145_, t146_, t147_, t148_, t149_, t150_, t151_, t152_, t153_, t154_, t155_, t156_, t157_, t158_, t159_, t160_, t161_, t162_, t163_, t164_, t165_, t166_, t167_, t168_, t169_, t170_, t171_, t172_, t173_, t174_, t175_, t176_, t177_, t178_, t179_, t180_, t181_, t182_, t183_, t184_, t185_, t186_, t187_, t188_, t189_, t190_, t191_, t192_, t193_, t194_, t195_, t196_, t197_, t198_, t199_, t200_, t201_, t202_].setIfInBounds 86 x86).setIfInBounds 87 x87).setIfInBounds 88 x88).setIfInBounds 89 x89).setIfInBounds 90 x90).setIfInBounds 91 x91).setIfInBounds 92 x92).setIfInBounds 93 x93).setIfInBounds 94 x94).setIfInBounds 95 x95).setIfInBounds 96 x96).setIfInBounds 97 x97).setIfInBounds 98 x98).setIfInBounds 99 x99) = #[t0_, t1_, t2_, t3_, t4_, t5_, t6_, t7_, t8_, t9_, t10_, t11_, t12_, t13_, t14_, t15_, t16_, t17_, t18_, t19_, t20_, t21_, t22_, t23_, t24_, t25_, t26_, t27_, t28_, t29_, t30_, t31_, t32_, t33_, t34_, t35_, t36_, t37_, t38_, t39_, t40_, t41_, t42_, t43_, t44_, t45_, t46_, t47_, t48_, t49_, t50_, t51_, t52_, t53_, t54_, t55_, t56_, t57_, t58_, t59_, t60_, t61_, t62_, t63_, t64_, t65_, t66_, t67_, t68_, t69_, t70_, t71_, t72_, t73_, t74_, t75_, t76_, t77_, t78_, t79_, t80_, t81_, t82_, t83_, t84_, t85_, x86, x87, x88, x89, x90, x91, x92, x93, x94, x95, x96, x97, x98, x99, t100_, t101_, t102_, t103_, t104_, t105_, t106_, t107_, t108_, t109_, t110_, t111_, t112_, t113_, t114_, t115_, t116_, t117_, t118_, t119_, t120_, t121_, t122_, t123_, t124_, t125_, t126_, t127_, t128_, t129_, t130_, t131_, t132_, t133_, t134_, t135_, t136_, t137_, t138_, t139_, t140_, t141_, t142_, t143_, t144_, t145_, t146_, t147_, t148_, t149_, t150_, t151_, t152_, t153_, t154_, t155_, t156_, t157_, t158_, t159_, t160_, t161_, t162_, t163_, t164_, t165_, t166_, t167_, t168_, t169_, t170_, t171_, t172_, t173_, t174_, t175_, t176_, t177_, t178_, t179_, t180_, t181_, t182_, t183_, t184_, t185_, t186_, t187_, t188_, t189_, t190_, t191_, t192_, t193_, t194_, t195_, t196_, t197_, t198_, t199_, t200_, t201_, t202_] := by kernel_rfl
  have f := fin x86 x87 x88 x89 x90 x91 x92 x93 x94 x95 x96 x97 x98 x99 W
  rw [← e] at f
  exact f
end
end Go.Proofs.Ytekcphpeaoaaaaa

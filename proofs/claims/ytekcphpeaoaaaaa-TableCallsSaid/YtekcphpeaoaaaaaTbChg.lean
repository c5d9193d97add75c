/- Package table: what Changes returns; what its loops keep. -/
import Derived.Test.YtekcphpeaoaaaaaTbNodes
namespace Go.Proofs.Ytekcphpeaoaaaaa
open Go.RowKit Go.Shelf
set_option linter.unusedVariables false

/-! ### What it returns -/
def goneOf (e : KV) : Pr := ⟨e.1, [], true⟩
def belowN (key : Str) (ys : List KV) : Nat := flowN (fun k => lt k key) ys
/-- What follows those below. -/
def atKey (x : KV) (r : List KV) : List Pr × List KV := match r with
  | y :: r' => if y.1 = x.1 then (if y.2 = x.2 then [] else [prOf y], r') else ([goneOf x], y :: r')
  | [] => ([goneOf x], [])
def chg : List KV → List KV → List Pr
  | [], ys => ys.map prOf
  | x :: xs, ys => (ys.take (belowN x.1 ys)).map prOf ++ ((atKey x (ys.drop (belowN x.1 ys))).1 ++ chg xs (atKey x (ys.drop (belowN x.1 ys))).2)
theorem chg_cons (x : KV) (xs ys : List KV) : chg (x :: xs) ys = (ys.take (belowN x.1 ys)).map prOf ++ ((atKey x (ys.drop (belowN x.1 ys))).1 ++ chg xs (atKey x (ys.drop (belowN x.1 ys))).2) := rfl
theorem atKey_len (x : KV) (r : List KV) : (atKey x r).1.length + (atKey x r).2.length ≤ r.length + 1 := by
  unfold atKey
  cases r with
  | nil => simp
  | cons y r' =>
    simp only
    split
    · split <;> (simp; omega)
    · simp; omega
theorem chg_len : ∀ (xs ys : List KV), (chg xs ys).length ≤ xs.length + ys.length
  | [], ys => by simp [chg]
  | x :: xs, ys => by
    rw [chg_cons]
    have h1 := atKey_len x (ys.drop (belowN x.1 ys))
    have h2 := chg_len xs (atKey x (ys.drop (belowN x.1 ys))).2
    have h3 := flowN_le (fun k => lt k x.1) ys
    have h4 : belowN x.1 ys ≤ ys.length := h3
    simp only [List.length_append, List.length_map, List.length_take, List.length_cons, List.length_drop] at *
    omega
theorem place_zero (xs : List KV) : xs.drop (place [] xs) = xs := by rw [place_empty]; rfl

/-! ### What its loops keep -/
structure Lq (W0 w w0 : World) (bl p2 : Nat) (X G H G2 : Nat → Prop) (l : List Pr) (s2 : Stk) (W : World) : Prop where
  lst : LstAt W w.heap.size bl H l
  pos : PosAt W w.heap.size p2 G2 s2
  stk : StkIn w0 w.heap.size s2
  gh : ∀ j, G j → ¬ H j
  g2 : ∀ j, G j → ¬ G2 j
  h2 : ∀ j, G2 j → ¬ H j
  hx : ∀ j, H j → ¬ X j
  x2 : ∀ j, G2 j → ¬ X j
  gx : ∀ j, G j → ¬ X j
  gg : ∀ j, G j → w.heap.size ≤ j
  nx : Nx w W
  fix : ∀ j, X j → W.heap[j]? = W0.heap[j]?
  sz : W0.heap.size ≤ W.heap.size
section
variable {W0 w w0 : World} {bl p2 : Nat} {X G G' H H' G2 G2' : Nat → Prop} {l l' : List Pr} {s2 s2' : Stk} {W W' : World}
theorem Lq.mv (h : Lq W0 w w0 bl p2 X G H G2 l s2 W) (hX : ∀ j, X j → j < W0.heap.size) (hm : Mv G W G' W') : Lq W0 w w0 bl p2 X G' H G2 l s2 W' := by
  refine ⟨h.lst.mv hm h.gh, h.pos.mv hm h.g2, h.stk, hm.apart h.gh h.lst.cel, hm.apart h.g2 h.pos.cel, h.h2, h.hx, h.x2, fun j hj hxj => ?_, fun j hj => ?_, ?_, fun j hj => ?_, Nat.le_trans h.sz hm.chd.size⟩
  · rcases (hm.new j hj).1 with e | e
    · exact h.gx j e hxj
    · have := hX j hxj; have := h.sz; omega
  · rcases (hm.new j hj).1 with e | e
    · exact h.gg j e
    · have := h.nx.size; omega
  · exact Below.trans h.nx (hm.chd.below h.nx.size fun j hj e => by have := h.gg j e; omega)
  · exact (hm.chd.block j (Nat.lt_of_lt_of_le (hX j hj) h.sz) (fun e => h.gx j e hj)).trans (h.fix j hj)
theorem Lq.bk {n : Nat} (h : Lq W0 w w0 bl p2 X G H G2 l s2 W) (hX : ∀ j, X j → j < W0.heap.size) (hn : W0.heap.size ≤ n) (hw : w.heap.size ≤ W0.heap.size) (hb : Bk n W W') : Lq W0 w w0 bl p2 X G H G2 l s2 W' := by
  refine ⟨h.lst.bk hb, h.pos.bk hb, h.stk, h.gh, h.g2, h.h2, h.hx, h.x2, h.gx, h.gg, Below.trans h.nx (hb.below (Nat.le_trans hw hn) h.nx.size), fun j hj => ?_, Nat.le_trans h.sz hb.size⟩
  exact (hb.block j (Nat.lt_of_lt_of_le (hX j hj) h.sz) (fun e => by have := e.1; have := hX j hj; omega)).trans (h.fix j hj)
theorem Lq.next (h : Lq W0 w w0 bl p2 X G H G2 l s2 W) (hX : ∀ j, X j → j < W0.heap.size) (hc : ∀ j, G j → Cel W j) (hn : Nx W W') : Lq W0 w w0 bl p2 X G H G2 l s2 W' ∧ Kp X G W W' := ⟨h.mv hX (Mv.of_nx hn hc), hn.chd⟩
/-- The other position moves. -/
theorem Lq.mv2 (h : Lq W0 w w0 bl p2 X G H G2 l s2 W) (hX : ∀ j, X j → j < W0.heap.size) (hc : ∀ j, G j → Cel W j) (hm : Mv G2 W G2' W') (hp : PosAt W' w.heap.size p2 G2' s2') (hs : StkIn w0 w.heap.size s2') : Lq W0 w w0 bl p2 X G H G2' l s2' W' ∧ Kp X G W W' := by
  have d1 : ∀ j, G2 j → ¬ G j := fun j a b => h.g2 j b a
  refine ⟨⟨h.lst.mv hm h.h2, hp, hs, h.gh, fun j hj e => hm.apart d1 hc j e hj, hm.apart h.h2 h.lst.cel, h.hx, fun j hj hxj => ?_, h.gx, h.gg, ?_, fun j hj => ?_, Nat.le_trans h.sz hm.chd.size⟩, hm.chd.mono fun j _ e k => k.elim (d1 j e) (h.x2 j e)⟩
  · rcases (hm.new j hj).1 with e | e
    · exact h.x2 j e hxj
    · have := hX j hxj; have := h.sz; omega
  · exact Below.trans h.nx (hm.chd.below h.nx.size fun j hj e => by have := h.pos.ge j e; omega)
  · exact (hm.chd.block j (Nat.lt_of_lt_of_le (hX j hj) h.sz) (fun e => h.x2 j e hj)).trans (h.fix j hj)
/-- The list turns. -/
theorem Lq.push (h : Lq W0 w w0 bl p2 X G H G2 l s2 W) (hX : ∀ j, X j → j < W0.heap.size) (hc : ∀ j, G j → Cel W j) (hm : Mv H W H' W') (hl : LstAt W' w.heap.size bl H' l') : Lq W0 w w0 bl p2 X G H' G2 l' s2 W' ∧ Kp X G W W' := by
  have d1 : ∀ j, H j → ¬ G j := fun j a b => h.gh j b a
  have d2 : ∀ j, H j → ¬ G2 j := fun j a b => h.h2 j b a
  refine ⟨⟨hl, h.pos.mv hm d2, h.stk, fun j hj e => hm.apart d1 hc j e hj, h.g2, fun j hj e => hm.apart d2 h.pos.cel j e hj, fun j hj hxj => ?_, h.x2, h.gx, h.gg, ?_, fun j hj => ?_, Nat.le_trans h.sz hm.chd.size⟩, hm.chd.mono fun j _ e k => k.elim (d1 j e) (h.hx j e)⟩
  · rcases (hm.new j hj).1 with e | e
    · exact h.hx j e hxj
    · have := hX j hxj; have := h.sz; omega
  · exact Below.trans h.nx (hm.chd.below h.nx.size fun j hj e => by have := h.lst.ge j e; omega)
  · exact (hm.chd.block j (Nat.lt_of_lt_of_le (hX j hj) h.sz) (fun e => h.hx j e hj)).trans (h.fix j hj)
/-- What a loop within keeps: all but the list and the other position. -/
def Xin (W : World) (H G2 : Nat → Prop) (j : Nat) : Prop := j < W.heap.size ∧ ¬ H j ∧ ¬ G2 j
theorem Lq.inner0 (h : Lq W0 w w0 bl p2 X G H G2 l s2 W) (hw : w.heap.size ≤ W0.heap.size) : Lp W w bl (Xin W H G2) G2 l W :=
  ⟨⟨H, h.lst, h.h2, fun j hj hx => hx.2.1 hj⟩, h.pos.ge, fun j hj hx => hx.2.2 hj, h.nx, fun _ _ => rfl, Nat.le_refl _⟩
theorem Lq.inner (h : Lq W0 w w0 bl p2 X G H G2 l s2 W) (hX : ∀ j, X j → j < W0.heap.size) (hc : ∀ j, G j → Cel W j) (hl : Lp W w bl (Xin W H G2) G2' l' W') (hp : PosAt W' w.heap.size p2 G2' s2') (hs : StkIn w0 w.heap.size s2') : (∃ H', Lq W0 w w0 bl p2 X G H' G2' l' s2' W') ∧ Kp X G W W' := by
  obtain ⟨H', hla, hap, hhx⟩ := hl.ex
  have gX : ∀ j, G j → Xin W H G2 j := fun j hj => ⟨(hc j hj).lt, h.gh j hj, h.g2 j hj⟩
  have xX : ∀ j, X j → Xin W H G2 j := fun j hj => ⟨Nat.lt_of_lt_of_le (hX j hj) h.sz, fun e => h.hx j e hj, fun e => h.x2 j e hj⟩
  refine ⟨⟨H', hla, hp, hs, fun j hj e => hhx j e (gX j hj), fun j hj e => hl.ap j e (gX j hj), hap, fun j hj e => hhx j hj (xX j e), fun j hj e => hl.ap j hj (xX j e), h.gx, h.gg, hl.nx, fun j hj => (hl.fix j (xX j hj)).trans (h.fix j hj), Nat.le_trans h.sz hl.sz⟩, ?_⟩
  exact ⟨hl.nx.os.trans h.nx.os.symm, hl.nx.tape.trans h.nx.tape.symm, hl.nx.output.trans h.nx.output.symm, hl.sz, fun j hj hn => by
    have : G j ∨ X j := Classical.byContradiction hn
    exact hl.fix j (this.elim (gX j) (xX j))⟩
end
theorem KeepsFrom.bk {B n : Nat} {A W W' : World} (h : KeepsFrom B A W) (hk : Bk n W W') (hn : A.heap.size ≤ n) : KeepsFrom B A W' :=
  ⟨Nat.le_trans h.size hk.size, fun k o hB hk0 ho => by
    have h1 := h.same k o hB hk0 ho
    have hlt := (Array.getElem?_eq_some_iff.1 hk0).1
    exact (hk.block k (Array.getElem?_eq_some_iff.1 h1).1 (fun e => by have := e.1; omega)).trans h1⟩
/-- What pass returns, in terms of what is ahead. -/
theorem pass_head {w0 : World} {B : Nat} {s : Stk} (hs : StkIn w0 B s) (x : KV) : (passV x.1 s = .pointer none ∧ passF x.1 s = flow s ∧ atKey x (flow s) = ([goneOf x], flow s)) ∨
    (∃ b y r' n pl pr, passV x.1 s = ptrV b ∧ b < B ∧ BlkIs w0 b 66 (nodeC y.1 y.2 n pl pr) ∧ y.1.length ≤ 100000 ∧ y.2.length ≤ 100000 ∧ passF x.1 s = r' ∧ atKey x (flow s) = (if y.2 = x.2 then [] else [prOf y], r')) := by
  cases s with
  | nil => exact .inl ⟨rfl, rfl, rfl⟩
  | cons e s =>
    obtain ⟨b, t⟩ := e
    obtain ⟨hin, hne, hsr, h100⟩ := hs _ List.mem_cons_self
    cases t with
    | nil => exact absurd rfl hne
    | nd l k v r =>
      obtain ⟨b', pl, pr, e, hb, hk, _, _, k1, k2⟩ := hin
      simp only [ptrV, Value.pointer.injEq, Option.some.injEq, Addr.mk.injEq, and_true] at e
      subst e
      have hf : flow ((b, T.nd l k v r) :: s) = (k, v) :: (r.pairs ++ flow s) := rfl
      rw [hf]
      unfold passV passF atKey
      by_cases e : k = x.1
      · right
        refine ⟨b, (k, v), r.pairs ++ flow s, _, pl, pr, if_pos e, hb, hk, k1, k2, if_pos e, ?_⟩
        simp only
        rw [if_pos e]
      · left
        refine ⟨if_neg e, if_neg e, ?_⟩
        simp only
        rw [if_neg e]
theorem pair_of (w : World) (b : Nat) (e : KV) (n : Int) (pl pr : Value) (hb : BlkIs w b 66 (nodeC e.1 e.2 n pl pr)) (k1 : e.1.length ≤ 100000) (k2 : e.2.length ≤ 100000) :
    Calls Try.prog 48 #[ptrV b] w fun e' w' => e' = .returned (prV (prOf e)) ∧ Nx w w' := pair_any w b _ _ n pl pr hb k1 k2
theorem gone_of (w : World) (b : Nat) (e : KV) (n : Int) (pl pr : Value) (hb : BlkIs w b 66 (nodeC e.1 e.2 n pl pr)) (k1 : e.1.length ≤ 100000) :
    Calls Try.prog 52 #[ptrV b] w fun e' w' => e' = .returned (prV (goneOf e)) ∧ Nx w w' := gone_any w b _ _ n pl pr hb k1
theorem In.same {w w' : World} {B : Nat} {v : Value} {t : T} (h : In w B v t) (k : ∀ j, j < B → w'.heap[j]? = w.heap[j]?) : In w' B v t := by
  induction t generalizing v with
  | nil => exact h
  | nd l key x r il ir =>
    obtain ⟨b, pl, pr, e, hb, hk, h1, h2, h3⟩ := h
    exact ⟨b, pl, pr, e, hb, (k b hb).trans hk, il h1, ir h2, h3⟩
theorem StkIn.same {w w' : World} {B : Nat} {s : Stk} (h : StkIn w B s) (k : ∀ j, j < B → w'.heap[j]? = w.heap[j]?) : StkIn w' B s := fun e he => ⟨(h e he).1.same k, (h e he).2⟩
end Go.Proofs.Ytekcphpeaoaaaaa

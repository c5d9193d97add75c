/- Package vector: Bytes and Read. -/
import Derived.Test.YtlmfjalkgapcgaaDoorVcKit
import Derived.Test.YtlmfjalkgapcgaaDoorVcBumps
import Derived.Test.YtlmfjalkgapcgaaDoorRdr3
import Derived.Test.YtlmfjalkgapcgaaDoorWiBackPure
namespace Go.Proofs.YtlmfjalkgapcgaaDoor
open Go.RowKit
set_option linter.unusedVariables false

attribute [local go_sem] Oper.semAt_some

/-! ### Pure -/
abbrev Rs := List UInt8 × Nat
def rdN (st : Rs) : Nat × Rs := if st.2 = 0 then ((num st.1).1, st.1.drop (num st.1).2.1, (num st.1).2.2) else (0, st)
def rdC (m : Nat) (st : Rs) : Nat × Rs := if st.2 = 0 then ((cnt m st.1).1, st.1.drop (cnt m st.1).2.1, (cnt m st.1).2.2) else (0, st)
theorem rdN_enc (x : Nat) (hx : x < 18446744073709551616) (r : List UInt8) : rdN (enc x ++ r, 0) = (x, r, 0) := by
  unfold rdN
  simp only [if_true]
  rw [num_enc x hx r]
  simp
theorem rdC_enc (m x : Nat) (hx : x < 18446744073709551616) (hm : x ≤ m) (r : List UInt8) : rdC m (enc x ++ r, 0) = (x, r, 0) := by
  unfold rdC cnt
  simp only [if_true]
  rw [num_enc x hx r]
  simp [Nat.not_lt.2 hm]
theorem rdC_le (m : Nat) (st : Rs) : (rdC m st).1 ≤ m := by
  unfold rdC cnt
  repeat' split
  all_goals first | exact Nat.zero_le _ | (simp only; omega)
theorem rdN_lt (st : Rs) : (rdN st).1 < 18446744073709551616 := by
  unfold rdN
  split
  · exact num_lt _
  · show 0 < _; omega
def rdCt (st : Rs) : Ct × Rs := (⟨((rdC 16 st).1 : Int), (rdN (rdC 16 st).2).1⟩, (rdN (rdC 16 st).2).2)
def rdV : Nat → Rs → List Ct × Rs
  | 0, st => ([], st)
  | n + 1, st => ((rdCt st).1 :: (rdV n (rdCt st).2).1, (rdV n (rdCt st).2).2)
def readV (b : List UInt8) : Option (List Ct) :=
  if (rdV (rdC 16 (b, 0)).1 (rdC 16 (b, 0)).2).2 = ([], 0) ∧ vld 0 (rdV (rdC 16 (b, 0)).1 (rdC 16 (b, 0)).2).1 = true then some (rdV (rdC 16 (b, 0)).1 (rdC 16 (b, 0)).2).1 else none
def ctB (c : Ct) : List UInt8 := enc c.d.toNat ++ enc c.n
def encV (l : List Ct) : List UInt8 := enc l.length ++ l.flatMap ctB
theorem vld_mem {l : List Ct} : ∀ {a : Int}, vld a l = true → ∀ c ∈ l, 1 ≤ c.d ∧ c.d ≤ 16 := by
  induction l with
  | nil => intro a _ c hc; cases hc
  | cons x l ih =>
    intro a h c hc
    rw [vld_cons] at h
    rcases List.mem_cons.1 hc with rfl | hc
    · exact ⟨h.1.1, h.1.2.1⟩
    · exact ih h.2 c hc
theorem rdV_enc : ∀ (l : List Ct) (r : List UInt8), (∀ c ∈ l, 1 ≤ c.d ∧ c.d ≤ 16 ∧ c.n < 18446744073709551616) → rdV l.length (l.flatMap ctB ++ r, 0) = (l, r, 0)
  | [], r, _ => rfl
  | c :: l, r, h => by
    obtain ⟨h1, h2, h3⟩ := h c (by simp)
    have e : rdCt ((c :: l).flatMap ctB ++ r, 0) = (c, l.flatMap ctB ++ r, 0) := by
      unfold rdCt
      rw [List.flatMap_cons]
      unfold ctB
      simp only [List.append_assoc]
      rw [rdC_enc 16 _ (by omega) (by omega), rdN_enc _ h3]
      have : ((c.d.toNat : Nat) : Int) = c.d := Int.toNat_of_nonneg (by omega)
      obtain ⟨d, n⟩ := c
      simp only at this ⊢
      rw [this]
    show ((rdCt ((c :: l).flatMap ctB ++ r, 0)).1 :: (rdV l.length (rdCt ((c :: l).flatMap ctB ++ r, 0)).2).1, (rdV l.length (rdCt ((c :: l).flatMap ctB ++ r, 0)).2).2) = _
    rw [e]
    simp only
    rw [rdV_enc l r fun x hx => h x (by simp [hx])]
theorem readV_enc {l : List Ct} (h : vld 0 l = true) (k : CtsOk l) : readV (encV l) = some l := by
  have hl := vld_len16 h
  have e1 : rdC 16 (encV l, 0) = (l.length, l.flatMap ctB, 0) := rdC_enc 16 _ (by omega) hl _
  have e2 : rdV l.length (l.flatMap ctB, 0) = (l, [], 0) := by
    have := rdV_enc l [] fun c hc => by
      have := vld_mem h c hc
      have := (k c hc).2.2
      exact ⟨by omega, by omega, by omega⟩
    simpa using this
  unfold readV
  rw [e1]
  simp only
  rw [e2]
  simp [h]

/-! ### A reader told of what is left -/
def RdS (w : World) (B g : Nat) (st : Rs) : Prop := ∃ A n c l at_, Rdr w B g A n c l at_ ((st.2 : Nat) : Int) ∧ l.drop at_ = st.1
def RdQ (w : World) (B g : Nat) (st : Rs) (v : Value) (e : Ending) (w' : World) : Prop := e = .returned v ∧ RdS w' B g st ∧ w.grownBy w' (some g)
theorem rnum_any (w : World) (B g : Nat) (st : Rs) (h : RdS w B g st) :
    Calls Tryd.prog 45 #[.pointer (some ⟨g, 0, none⟩)] w (RdQ w B g (rdN st).2 (.int .u64 ((rdN st).1 : Nat))) := by
  obtain ⟨A, n, c, l, at_, h, hd⟩ := h
  obtain ⟨s, er⟩ := st
  simp only at h hd
  subst hd
  unfold rdN
  by_cases he : er = 0
  · subst he
    refine (rd_number0 w B g n c at_ A l h).mono ?_
    rintro e w' ⟨rfl, h1, h2⟩
    exact ⟨rfl, ⟨A, n, c, l, _, h1, by rw [← List.drop_drop]; rfl⟩, h2⟩
  · simp only [if_neg he]
    refine (rd_number1 w B g n c at_ A l er (by omega) h).mono ?_
    rintro e w' ⟨rfl, h1, h2⟩
    exact ⟨rfl, ⟨A, n, c, l, _, h1, rfl⟩, h2⟩
theorem rcnt_any (w : World) (B g m : Nat) (hm : m ≤ 9223372036854775807) (st : Rs) (h : RdS w B g st) :
    Calls Tryd.prog 44 #[.pointer (some ⟨g, 0, none⟩), .int .i64 m] w (RdQ w B g (rdC m st).2 (.int .i64 ((rdC m st).1 : Nat))) := by
  obtain ⟨A, n, c, l, at_, h, hd⟩ := h
  obtain ⟨s, er⟩ := st
  simp only at h hd
  subst hd
  unfold rdC
  by_cases he : er = 0
  · subst he
    refine (rd_count0 w B g n c at_ A l (m : Int) (by omega) h).mono ?_
    rintro e w' ⟨rfl, h1, h2⟩
    exact ⟨rfl, ⟨A, n, c, l, _, h1, by rw [← List.drop_drop]; rfl⟩, h2⟩
  · simp only [if_neg he]
    refine (rd_count1 w B g n c at_ A l er (m : Int) (by omega) h).mono ?_
    rintro e w' ⟨rfl, h1, h2⟩
    exact ⟨rfl, ⟨A, n, c, l, _, h1, rfl⟩, h2⟩
theorem rend_any (w : World) (B g : Nat) (st : Rs) (h : RdS w B g st) :
    Calls Tryd.prog 46 #[.pointer (some ⟨g, 0, none⟩)] w fun e w' => (∃ r : Int, e = .returned (.int .i64 r) ∧ (r = 0 ↔ st = ([], 0))) ∧ ∃ q, w' = w.drewN q := by
  obtain ⟨A, n, c, l, at_, h, hd⟩ := h
  obtain ⟨s, er⟩ := st
  simp only at h hd
  subst hd
  have hlen := h.own.len
  refine (rd_end w B g n c at_ A l _ h).mono ?_
  rintro e w' ⟨rfl, h1⟩
  refine ⟨⟨_, rfl, ?_⟩, h1⟩
  unfold endOf
  have hs : l.drop at_ = [] ↔ ¬ at_ < n := by rw [List.drop_eq_nil_iff]; omega
  by_cases he : er = 0
  · subst he
    by_cases hl : at_ < n
    · rw [if_pos ⟨rfl, hl⟩]
      refine ⟨fun e => by omega, fun e => ?_⟩
      have : l.drop at_ = [] := congrArg Prod.fst e
      exact absurd hl (hs.1 this)
    · rw [if_neg (fun e => hl e.2), hs.2 hl]
      simp
  · rw [if_neg (fun e => he (by have := e.1; omega))]
    refine ⟨fun e => absurd e (by omega), fun e => ?_⟩
    exact absurd (congrArg Prod.snd e) he
section
variable {α : Type} {E : En α} {W W' : World} {B B' g : Nat} {v : Value} {l : List α} {st : Rs}
theorem RwG.turn {t : TypeId} {cs : Array Value} (h : RwG E W B v l) (hb : BlkIs W g t cs) (ht : t ≠ E.t) (hg : W.grownBy W' (some g)) : RwG E W' B v l := h.keep fun j hj => by
  obtain ⟨_, cs2, h2⟩ := own_blk h hj
  refine hg.block j h2.lt fun e => ?_
  obtain rfl : j = g := by simpa using e
  have := hb.symm.trans h2
  simp only [Option.some.injEq, Obj.cells.injEq] at this
  exact ht this.2.1
theorem RdS.blk (h : RdS W B g st) : ∃ cs, BlkIs W g 94 cs ∧ B ≤ g := by
  obtain ⟨A, n, c, l, at_, h, _⟩ := h
  exact ⟨_, h.blk, h.hB⟩
theorem RdS.push (h : RdS W B g st) (hr : RwG E W B' v l) (h1 : 94 ≠ E.t) (h2 : 5 ≠ E.t) (hg : W.grownBy W' v.ownBlock) : RdS W' B g st := by
  obtain ⟨A, n, c, b, at_, h, hd⟩ := h
  have nt : ∀ {j t cs}, v.ownBlock = some j → BlkIs W j t cs → t = E.t := fun hj hb => by
    obtain ⟨_, cs2, h2⟩ := own_blk hr hj
    have := hb.symm.trans h2
    simp only [Option.some.injEq, Obj.cells.injEq] at this
    exact this.2.1
  refine ⟨A, n, c, b, at_, h.grown hg (fun e => h1 (nt e.symm h.blk)) ?_, hd⟩
  cases e : (Value.slice A n c).ownBlock with
  | none => exact .inl rfl
  | some j =>
    right
    intro e2
    obtain ⟨_, cs2, h3⟩ := own_blk h.own e
    exact h2 (nt e2.symm h3)
theorem RdS.nx (h : RdS W B g st) (k : Nx W W') : RdS W' B g st := by
  obtain ⟨A, n, c, b, at_, h, hd⟩ := h
  exact ⟨A, n, c, b, at_, h.below k, hd⟩
theorem Nx.turn1 {w : World} (h : Nx w W) (hg : w.heap.size ≤ g) (k : W.grownBy W' (some g)) : Nx w W' :=
  Below.trans h ((Chd.of_grown k).below h.size fun j hj e => by simp only [Option.some.injEq] at e; omega)
end

/-! ### Read -/
/-- Between two rounds: the reader, and the counts so far. -/
structure RvI (w : World) (g : Nat) (st : Rs) (v5 : Value) (acc : List Ct) (W : World) : Prop where
  nx : Nx w W
  rd : RdS W w.heap.size g st
  rw_ : RwG ctE W w.heap.size v5 acc
section
variable {w W W' : World} {g : Nat} {st st' : Rs} {v5 : Value} {acc : List Ct}
theorem RvI.turn (h : RvI w g st v5 acc W) (hr : RdS W' w.heap.size g st') (hg : W.grownBy W' (some g)) : RvI w g st' v5 acc W' := by
  obtain ⟨cs, hb, hB⟩ := h.rd.blk
  exact ⟨h.nx.turn1 hB hg, hr, h.rw_.turn hb (by decide) hg⟩
theorem RvI.next (h : RvI w g st v5 acc W) (k : Nx W W') : RvI w g st v5 acc W' := ⟨h.nx.trans k, h.rd.nx k, h.rw_.nx k⟩
theorem RvI.push (h : RvI w g st v5 acc W) {v' : Value} {acc' : List Ct} (hr : RwG ctE W' w.heap.size v' acc') (hg : W.grownBy W' v5.ownBlock) : RvI w g st v' acc' W' :=
  ⟨h.nx.grow h.rw_ (Nat.le_refl _) hg, h.rd.push h.rw_ (by decide) (by decide) hg, hr⟩
end
theorem rdV_len : ∀ (n : Nat) (st : Rs), (rdV n st).1.length = n
  | 0, _ => rfl
  | n + 1, st => by show (rdV n (rdCt st).2).1.length + 1 = _; rw [rdV_len]
def ReadR (B : Nat) (b : List UInt8) (r : Value) (n : Int) (w : World) : Prop := match readV b with
  | some l => RwG ctE w B r l ∧ n = 0
  | none => r = .slice none 0 0 ∧ n = 4
set_option maxRecDepth 100000 in
set_option maxHeartbeats 1000000 in
theorem read_any (w : World) (B n c : Nat) (A : Option Addr) (l : List UInt8) (h : Byt w B A n c l) (hB : B ≤ w.heap.size) (hA : A = none → n = 0 ∧ c = 0) (hn : n ≤ 1099511627776) :
    Calls Tryd.prog 17 #[.slice A n c] w (Ret2 fun r k w' => ReadR w.heap.size l r k w' ∧ Nx w w') := by
  have NW := Lib.hid (new_any w B n c A l h hB hA hn)
  have E : Hid (∀ r k w', ReadR w.heap.size l r k w' ↔ match readV l with
    | some l => RwG ctE w' w.heap.size r l ∧ k = 0
    | none => r = .slice none 0 0 ∧ k = 4) := fun _ _ _ => Iff.rfl
  have EV : Hid (readV l = if (rdV (rdC 16 (l, 0)).1 (rdC 16 (l, 0)).2).2 = ([], 0) ∧ vld 0 (rdV (rdC 16 (l, 0)).1 (rdC 16 (l, 0)).2).1 = true then some (rdV (rdC 16 (l, 0)).1 (rdC 16 (l, 0)).2).1 else none) := rfl
  generalize ReadR w.heap.size l = R at *
  generalize readV l = rv at *
  clear h hB hA hn
  go_enter Tryd.func17, Tryd.ntmps17
  go_wp2_with fail
  refine NW.out.mono ?_
  rintro e w1 ⟨g, A', n', c', rfl, hr, hn1⟩
  have I1 : Hid (RvI w g (l, 0) (.slice none 0 0) [] w1) := ⟨hn1, ⟨_, _, _, _, _, hr, rfl⟩, RwG.nil _ _⟩
  have CN := Lib.hid (rcnt_any w1 w.heap.size g 16 (by decide) (l, 0) I1.out.rd)
  clear NW hr hn1
  generalize hs0 : rdC 16 (l, 0) = s0 at *
  have hle := rdC_le 16 (l, 0)
  rw [hs0] at hle
  obtain ⟨m, st⟩ := s0
  simp only at hle
  go_wp2_with fail
  refine CN.out.mono ?_
  rintro e w2 ⟨rfl, hr2, hg2⟩
  have I2 := Lib.hid (I1.out.turn hr2 hg2)
  clear CN I1 hr2 hg2 hs0
  have LV := Lib.hid (rdV_len m st)
  obtain ⟨L, hL⟩ : ∃ L, rdV m st = L := ⟨_, rfl⟩
  have HL := Lib.hid hL
  rw [hL] at EV LV
  clear hL
  go_wp2
  go_loopw [5, 10] (fun x5 x wr => ∃ (i : Nat) (A n c : _), x5 = .slice A n c ∧ x = .int .i64 i ∧ i ≤ m ∧ Hid (∃ st' acc, RvI w g st' (.slice A n c) acc wr ∧ acc.length = i ∧ (acc ++ (rdV (m - i) st').1, (rdV (m - i) st').2) = L)) (fun _ x _ => m - (intOf x).toNat)
  case atStart => exact ⟨0, _, _, _, rfl, rfl, Nat.zero_le _, st, [], I2.out, rfl, by rw [← HL.out]; simp⟩
  case round =>
    obtain ⟨i, A5, n5, c5, rfl, rfl, hi, hh⟩ := hrel
    obtain ⟨st', acc, hI, hla, he⟩ := hh.out
    by_cases hlt : i < m
    · have e2 : decide ((i : Int) < (m : Int)) = true := by simpa using hlt
      have e2b : decide (i < m) = true := by simpa using hlt
      have hw : IntKind.i64.wrap ((i : Int) + 1) = ((i + 1 : Nat) : Int) := by rw [IntWalk.i64_in _ (by omega)]; omega
      have hmi : m - i = (m - (i + 1)) + 1 := by omega
      rw [hmi] at he
      have he' : (acc ++ [(rdCt st').1] ++ (rdV (m - (i + 1)) (rdCt st').2).1, (rdV (m - (i + 1)) (rdCt st').2).2) = L := by
        rw [← he]
        show _ = (acc ++ ((rdCt st').1 :: (rdV (m - (i + 1)) (rdCt st').2).1), (rdV (m - (i + 1)) (rdCt st').2).2)
        simp
      have HI := Lib.hid hI
      have HE := Lib.hid he'
      have HL := Lib.hid hlt
      have HM := Lib.hid (show i < 16 by omega)
      have C1 := Lib.hid (rcnt_any wr w.heap.size g 16 (by decide) st' hI.rd)
      have C2 : Hid (∀ W, RdS W w.heap.size g (rdC 16 st').2 → Calls Tryd.prog 45 #[.pointer (some ⟨g, 0, none⟩)] W (RdQ W w.heap.size g (rdN (rdC 16 st').2).2 (.int .u64 ((rdN (rdC 16 st').2).1 : Nat)))) := fun W hW => rnum_any W _ _ _ hW
      have EC : Hid (rdCt st' = (⟨((rdC 16 st').1 : Int), (rdN (rdC 16 st').2).1⟩, (rdN (rdC 16 st').2).2)) := rfl
      have HLA := Lib.hid hla
      clear hh hI he he' hlt hmi hla
      generalize rdCt st' = cs at *
      generalize rdN (rdC 16 st').2 = xn at *
      generalize rdC 16 st' = xc at *
      obtain ⟨dv, s1⟩ := xc
      obtain ⟨vv, s2⟩ := xn
      obtain ⟨ct, s3⟩ := cs
      obtain ⟨rfl, rfl⟩ : ct = ⟨(dv : Int), vv⟩ ∧ s3 = s2 := by have := EC.out; simp only [Prod.mk.injEq] at this; exact this
      clear EC
      simp only at C1 C2 HE
      go_wp2_with fail
      refine C1.out.mono ?_
      rintro e w3 ⟨rfl, hr3, hg3⟩
      have I3 := Lib.hid (HI.out.turn hr3 hg3)
      clear C1 HI hr3 hg3
      have C3 := Lib.hid (C2.out w3 I3.out.rd)
      clear C2
      go_wp2_with fail
      refine C3.out.mono ?_
      rintro e w4 ⟨rfl, hr4, hg4⟩
      have I4 := Lib.hid (I3.out.turn hr4 hg4)
      clear C3 I3 hr4 hg4
      have NXT : Hid (∀ V v' w5, Nx w4 V → RwG ctE w5 w.heap.size v' (acc ++ [⟨(dv : Int), vv⟩]) → V.grownBy w5 (Value.slice A5 n5 c5).ownBlock → RvI w g s3 v' (acc ++ [⟨(dv : Int), vv⟩]) w5) := fun V v' w5 hv hr hg => (I4.out.next hv).push hr hg
      have LN : Hid (∀ p : Ct, acc.length + [p].length ≤ 1000000000) := fun p => by have := HM.out; have := HLA.out; simp only [List.length_singleton]; omega
      go_wp2_with (at_builtin; refine wpList_appG (E := ctE) 23 Tryd.underlying23 rfl _ _ rfl w.heap.size (.slice A5 n5 c5) _ acc [⟨(dv : Int), vv⟩] rfl rfl (I4.out.rw_.nx ((Nx.refl _).alloc _)) (rd_lit _ _ rfl) (LN.out _) (((I4.out.nx).alloc _).size) ?_; intro v1 w5 hrow1 hg1; have g1 := NXT.out _ v1 w5 ((Nx.refl _).alloc _) hrow1 hg1; obtain ⟨A6, n6, c6, rfl⟩ : ∃ A n c, v1 = .slice A n c := (by obtain ⟨A, c, e⟩ := hrow1.form; exact ⟨_, _, _, e⟩); have G1 := Lib.hid g1; clear g1 hrow1 hg1)
      go_roundw
      case rel => exact ⟨i + 1, _, _, _, rfl, rfl, HL.out, s3, _, G1.out, by rw [List.length_append, HLA.out]; rfl, HE.out⟩
      case measure => simp only [intOf, Int.toNat_natCast]; have := HL.out; omega
    · have e2 : decide ((i : Int) < (m : Int)) = false := by simpa using hlt
      have e2b : decide (i < m) = false := by simpa using hlt
      have hmi : m - i = 0 := by omega
      rw [hmi] at he
      have he' : (acc, st') = L := by rw [← he]; simp [rdV]
      subst he'
      have HI := Lib.hid hI
      have hn5 := hI.rw_.rd.caps.1
      have hacc : acc.length ≤ 16 := by omega
      have EN := Lib.hid (rend_any wr w.heap.size g st' hI.rd)
      have CK : Hid (∀ W, Nx wr W → Calls Tryd.prog 11 #[.slice A5 n5 c5] W fun e w' => e = .returned (.int .i64 (if vld 0 acc then 0 else 2)) ∧ Nx W w') := fun W hW => check_any W _ acc ((hI.rw_.nx hW).rd) (by omega)
      simp only at EV
      clear hh hI he hlt hmi hla hn5 hacc HL LV
      go_wp2_with fail
      refine EN.out.mono ?_
      rintro e w3 ⟨⟨r, rfl, hr⟩, q, rfl⟩
      have N3 : Hid (Nx wr (wr.drewN q)) := (Nx.refl _).drewN q
      generalize wr.drewN q = w3 at *
      cases z : (r == 0) with
      | false =>
        have hst : st' ≠ ([], 0) := fun e => by rw [hr.2 e] at z; cases z
        have z2 : (r != 0) = true := by simp [bne, z]
        have FIN : Hid (∀ w', R (.slice none 0 0) 4 w') := fun w' => (E.out _ _ _).2 (by rw [EV.out, if_neg (fun e => hst e.1)]; exact ⟨rfl, rfl⟩)
        have NF := Lib.hid (HI.out.nx.trans N3.out)
        clear hr hst EV E CK HI
        go_wp2
        go_ret2
        exact ⟨_, _, rfl, FIN.out _, NF.out⟩
      | true =>
        have hst : st' = ([], 0) := hr.1 (by simpa using z)
        obtain rfl : r = 0 := by simpa using z
        have HST := Lib.hid hst
        clear hr hst z
        go_wp2_with fail
        refine (CK.out w3 N3.out).mono ?_
        rintro e w4 ⟨rfl, hn4⟩
        have N4 := Lib.hid (N3.out.trans hn4)
        clear hn4
        cases hv : vld 0 acc with
        | true =>
          have FIN : Hid (R (.slice A5 n5 c5) 0 w4) := (E.out _ _ _).2 (by rw [EV.out, if_pos ⟨HST.out, hv⟩]; exact ⟨HI.out.rw_.nx N4.out, rfl⟩)
          have NF := Lib.hid (HI.out.nx.trans N4.out)
          clear EV E CK HI hv
          go_wp2
          go_ret2
          exact ⟨_, _, rfl, FIN.out, NF.out⟩
        | false =>
          have FIN : Hid (∀ w', R (.slice none 0 0) 4 w') := fun w' => (E.out _ _ _).2 (by rw [EV.out, if_neg (fun e => by rw [e.2] at hv; cases hv)]; exact ⟨rfl, rfl⟩)
          have NF := Lib.hid (HI.out.nx.trans N4.out)
          clear EV E CK HI hv
          go_wp2
          go_ret2
          exact ⟨_, _, rfl, FIN.out _, NF.out⟩

/-! ### Bytes -/
theorem ctB_len (c : Ct) : (ctB c).length ≤ 20 := by unfold ctB; rw [List.length_append]; have := enc_length c.d.toNat; have := enc_length c.n; omega
theorem ctBs_len (l : List Ct) : (l.flatMap ctB).length ≤ l.length * 20 := by
  induction l with
  | nil => simp
  | cons c l ih => rw [List.flatMap_cons, List.length_append, List.length_cons]; have := ctB_len c; omega
def BytesR (B : Nat) (l : List Ct) (r : Value) (n : Int) (w : World) : Prop := if vld 0 l then (∃ A k c, r = .slice A k c ∧ Own w B A k c (encV l)) ∧ n = 0 else r = .slice none 0 0 ∧ n = 2
set_option maxRecDepth 100000 in
set_option maxHeartbeats 1000000 in
theorem bytes_any (w : World) (v : Value) (l : List Ct) (h : RdG ctE w v l) (k : CtsOk l) (hn : l.length ≤ 9223372036854775807) :
    Calls Tryd.prog 15 #[v] w (Ret2 fun r n w' => BytesR w.heap.size l r n w' ∧ Nx w w') := by
  obtain ⟨A, c, rfl⟩ := h.form
  have CK := Lib.hid (check_any w _ l h hn)
  have HA := Lib.hid h
  have HK := Lib.hid k
  have E : Hid (∀ r n w', BytesR w.heap.size l r n w' ↔ if vld 0 l then (∃ A k c, r = .slice A k c ∧ Own w' w.heap.size A k c (encV l)) ∧ n = 0 else r = .slice none 0 0 ∧ n = 2) := fun _ _ _ => Iff.rfl
  generalize BytesR w.heap.size l = R at *
  clear h k
  go_enter Tryd.func15, Tryd.ntmps15
  go_wp2_with fail
  refine CK.out.mono ?_
  rintro e w1 ⟨rfl, hn1⟩
  have N1 := Lib.hid hn1
  clear CK hn1
  cases hv : vld 0 l with
  | false =>
    rw [hv] at E
    go_wp2
    go_ret2
    exact ⟨_, _, rfl, (E.out _ _ _).2 ⟨rfl, rfl⟩, N1.out⟩
  | true =>
    rw [hv] at E
    have hl := vld_len16 hv
    have HM := Lib.hid (vld_mem hv)
    have HE : Hid (encV l = enc l.length ++ l.flatMap ctB) := rfl
    have NU := Lib.hid (number_any w1 w1.heap.size none 0 0 [] l.length (Byt.none_ _ _) (Nat.le_refl _) (by omega) (by omega))
    have hcv : IntKind.u64.wrap (l.length : Int) = (l.length : Int) := IntWalk.u64_in _ (by omega)
    clear hv
    go_wp2_with fail
    refine NU.out.mono ?_
    rintro e w2 ⟨A2, n2, c2, rfl, hown2, hn2⟩
    have N2 : Hid (Nx w w2) := N1.out.trans hn2
    have O2 : Hid (Own w2 w.heap.size A2 n2 c2 (enc l.length)) := hown2.more N1.out.size
    clear NU hown2 hn2 hcv
    go_wp2
    go_loopw [5, 19] (fun x5 x wr => ∃ (i : Nat) (A n c : _), x5 = .slice A n c ∧ x = .int .i64 i ∧ i ≤ l.length ∧ Hid (Nx w wr ∧ Own wr w.heap.size A n c (enc l.length ++ (l.take i).flatMap ctB))) (fun _ x _ => l.length - (intOf x).toNat)
    case atStart => exact ⟨0, _, _, _, rfl, rfl, Nat.zero_le _, N2.out, by simpa using O2.out⟩
    case round =>
      obtain ⟨i, A5, n5, c5, rfl, rfl, hi, hh⟩ := hrel
      obtain ⟨hnx, ho⟩ := hh.out
      by_cases hlt : i < l.length
      · have e2 : decide ((i : Int) < (l.length : Int)) = true := by simpa using hlt
        have e2b : decide (i < l.length) = true := by simpa using hlt
        have e3 : (0 : Int) ≤ (i : Int) := by omega
        have e4 : (i : Int) < (l.length : Int) := by omega
        obtain ⟨b, o, rfl, x0, x1⟩ := ct_cells (HA.out.nx hnx) i hlt
        have hw : IntKind.i64.wrap ((i : Int) + 1) = ((i + 1 : Nat) : Int) := by rw [IntWalk.i64_in _ (by omega)]; omega
        have hsn : enc l.length ++ (l.take (i + 1)).flatMap ctB = enc l.length ++ (l.take i).flatMap ctB ++ enc l[i].d.toNat ++ enc l[i].n := by
          rw [List.take_succ_eq_append_getElem hlt, List.flatMap_append]
          simp [ctB]
        have hd := HM.out l[i] (List.getElem_mem hlt)
        have hnn := (HK.out l[i] (List.getElem_mem hlt)).2.2
        have hlen : (enc l.length ++ (l.take i).flatMap ctB).length ≤ 1000 := by
          rw [List.length_append]
          have := enc_length l.length
          have := ctBs_len (l.take i)
          rw [List.length_take] at this
          omega
        have hn5 := ho.len
        have HL := Lib.hid hlt
        generalize l[i] = q at *
        generalize enc l.length ++ (l.take i).flatMap ctB = pre at *
        have hdn : ((q.d.toNat : Nat) : Int) = q.d := Int.toNat_of_nonneg (by omega)
        have hcv : IntKind.u64.wrap q.d = ((q.d.toNat : Nat) : Int) := by rw [IntWalk.u64_in _ (by omega), hdn]
        have zb := box_ct wr q
        obtain ⟨U, hU⟩ : ∃ U, wr.alloc (.cells #[.int .i64 q.d, .int .u64 q.n] 29) = U := ⟨_, rfl⟩
        have nn : Nx wr U := by rw [← hU]; exact (Nx.refl _).alloc _
        rw [hU] at zb
        have z0 : U.cell? ⟨wr.heap.size, 0, none⟩ = some (.int .i64 q.d) := by rw [zb.cell]; rfl
        have NU1 := Lib.hid (number_any U U.heap.size A5 n5 c5 pre q.d.toNat ((ho.below nn).byt) (Nat.le_refl _) (by omega) (by omega))
        have NU2 : Hid (∀ W A n c, Own W U.heap.size A n c (pre ++ enc q.d.toNat) → Calls Tryd.prog 41 #[.slice A n c, .int .u64 q.n] W fun e w' => ∃ A' n' c', e = .returned (.slice A' n' c') ∧ Own w' W.heap.size A' n' c' (pre ++ enc q.d.toNat ++ enc q.n) ∧ Below W.heap.size W w') := fun W A n c hW =>
          number_any W W.heap.size A n c _ q.n hW.byt (Nat.le_refl _) (by omega) (by have := hW.len; rw [List.length_append] at this; have := enc_length q.d.toNat; omega)
        have ZB := Lib.hid zb
        have NN := Lib.hid (hnx.trans nn)
        have HSN := Lib.hid hsn
        generalize q.d.toNat = dn at *
        clear hh hnx ho hlt hd hnn hlen hn5 nn zb hsn hdn
        go_wp2_with fail
        refine NU1.out.mono ?_
        rintro e w3 ⟨A3, n3, c3, rfl, hown3, hn3⟩
        have hn3 : Nx U w3 := hn3
        have z1 : w3.cell? ⟨wr.heap.size, 1, none⟩ = some (.int .u64 q.n) := by rw [(ZB.out.nx hn3).cell]; rfl
        have N3 := Lib.hid (NN.out.trans hn3)
        have NU3 := Lib.hid (NU2.out w3 A3 n3 c3 hown3)
        clear NU1 NU2 hown3 hn3 z0
        go_wp2_with fail
        refine NU3.out.mono ?_
        rintro e w4 ⟨A4, n4, c4, rfl, hown4, hn4⟩
        have hn4 : Nx w3 w4 := hn4
        have N4 := Lib.hid (N3.out.trans hn4)
        have O4 : Hid (Own w4 w.heap.size A4 n4 c4 (enc l.length ++ (l.take (i + 1)).flatMap ctB)) := by rw [HSN.out]; exact hown4.more N3.out.size
        clear NU3 hown4 hn4 z1
        go_wp2
        go_roundw
        case rel => exact ⟨i + 1, _, _, _, rfl, rfl, HL.out, N4.out, O4.out⟩
        case measure => simp only [intOf, Int.toNat_natCast]; have := HL.out; omega
      · have e2 : decide ((i : Int) < (l.length : Int)) = false := by simpa using hlt
        have e2b : decide (i < l.length) = false := by simpa using hlt
        rw [List.take_of_length_le (by omega)] at ho
        have FIN : Hid (R (.slice A5 n5 c5) 0 wr) := (E.out _ _ _).2 ⟨⟨_, _, _, rfl, ho⟩, rfl⟩
        have HF := Lib.hid hnx
        clear hh hnx ho
        go_wp2
        go_ret2
        exact ⟨_, _, rfl, FIN.out, HF.out⟩
end Go.Proofs.YtlmfjalkgapcgaaDoor

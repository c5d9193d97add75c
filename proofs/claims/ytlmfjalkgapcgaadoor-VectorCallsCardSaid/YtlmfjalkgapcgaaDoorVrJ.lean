/- The document's answers for package vector: Get, Read. -/
import Derived.Test.YtlmfjalkgapcgaaDoorVrA
import Derived.Test.YtlmfjalkgapcgaaDoorVcBytes
import Derived.Test.YtlmfjalkgapcgaaDoorDoc5
namespace Go.Proofs.YtlmfjalkgapcgaaDoor
open Go.RowKit
set_option linter.unusedVariables false

attribute [local go_sem] Oper.semAt_some

/-! ### What the document's answer reads -/
theorem rdN_stick {st : Rs} (h : (rdN st).2.2 = 0) : st.2 = 0 := by
  unfold rdN at h
  split at h
  · assumption
  · exact h
theorem rdC_stick {m : Nat} {st : Rs} (h : (rdC m st).2.2 = 0) : st.2 = 0 := by
  unfold rdC at h
  split at h
  · assumption
  · exact h
theorem cnt_ok {m : Nat} {s : List UInt8} (h : (cnt m s).2.2 = 0) : cnt m s = num s ∧ (num s).1 ≤ m := by
  unfold cnt at *
  by_cases a : (num s).2.2 ≠ 0
  · rw [if_pos a] at h; exact absurd h a
  · by_cases b : m < (num s).1
    · rw [if_neg a, if_pos b] at h; simp at h
    · rw [if_neg a, if_neg b]
      have e : (num s).2.2 = 0 := by omega
      exact ⟨by rw [← e], by omega⟩
theorem cnt_of {m : Nat} {s : List UInt8} (h : (num s).2.2 = 0) (hm : (num s).1 ≤ m) : cnt m s = num s := by
  unfold cnt
  rw [if_neg (by omega), if_neg (by omega), ← h]
theorem rdC_rdN {m : Nat} {st : Rs} (h : (rdC m st).2.2 = 0) : rdC m st = rdN st ∧ (rdN st).1 ≤ m := by
  have h0 := rdC_stick h
  unfold rdC rdN at *
  rw [if_pos h0] at h
  rw [if_pos h0, if_pos h0]
  obtain ⟨e, hle⟩ := cnt_ok h
  exact ⟨by rw [e], hle⟩
theorem rdN_rdC {m : Nat} {st : Rs} (h : (rdN st).2.2 = 0) (hm : (rdN st).1 ≤ m) : rdC m st = rdN st := by
  have h0 := rdN_stick h
  unfold rdC rdN at *
  rw [if_pos h0] at h hm
  rw [if_pos h0, if_pos h0, cnt_of h hm]
/-- The counts that Get reads, at most n. -/
def refV : Nat → Rs → List Ct × Rs
  | 0, st => ([], st)
  | n + 1, st => if st.2 = 0 then (⟨((min (rdN st).1 17 : Nat) : Int), (rdN (rdN st).2).1⟩ :: (refV n (rdN (rdN st).2).2).1, (refV n (rdN (rdN st).2).2).2) else ([], st)
theorem refV_stick : ∀ {n : Nat} {st : Rs}, (refV n st).2.2 = 0 → st.2 = 0
  | 0, st, h => h
  | n + 1, st, h => by
    unfold refV at h
    split at h
    · assumption
    · exact h
theorem rdV_stick : ∀ {n : Nat} {st : Rs}, (rdV n st).2.2 = 0 → st.2 = 0
  | 0, st, h => h
  | n + 1, st, h => rdC_stick (rdN_stick (rdV_stick (n := n) (st := (rdCt st).2) h))
theorem refV_of : ∀ {n : Nat} {st : Rs}, (rdV n st).2.2 = 0 → refV n st = rdV n st
  | 0, st, _ => rfl
  | n + 1, st, h => by
    have h1 : (rdV n (rdCt st).2).2.2 = 0 := h
    have h2 : (rdCt st).2.2 = 0 := rdV_stick h1
    have h3 : (rdC 16 st).2.2 = 0 := rdN_stick h2
    obtain ⟨e, hle⟩ := rdC_rdN h3
    have e2 : rdCt st = (⟨((rdN st).1 : Int), (rdN (rdN st).2).1⟩, (rdN (rdN st).2).2) := by unfold rdCt; rw [e]
    show (if st.2 = 0 then _ else _) = ((rdCt st).1 :: (rdV n (rdCt st).2).1, (rdV n (rdCt st).2).2)
    rw [if_pos (rdC_stick h3)]
    rw [e2] at h1 ⊢
    simp only at h1 ⊢
    rw [refV_of h1, Nat.min_eq_left (by omega)]
theorem rdV_of : ∀ {n : Nat} {st : Rs}, (refV n st).2.2 = 0 → (∀ c ∈ (refV n st).1, c.d ≤ 16) → rdV n st = refV n st
  | 0, st, _, _ => rfl
  | n + 1, st, h, hc => by
    have h0 := refV_stick h
    have er : refV (n + 1) st = (⟨((min (rdN st).1 17 : Nat) : Int), (rdN (rdN st).2).1⟩ :: (refV n (rdN (rdN st).2).2).1, (refV n (rdN (rdN st).2).2).2) := by
      show (if st.2 = 0 then _ else _) = _
      rw [if_pos h0]
    rw [er] at h hc
    simp only at h hc
    have h1 : (rdN (rdN st).2).2.2 = 0 := refV_stick h
    have h2 : (rdN st).2.2 = 0 := rdN_stick h1
    have hd := hc _ (List.mem_cons_self ..)
    simp only at hd
    have hle : (rdN st).1 ≤ 16 := by omega
    have e := rdN_rdC h2 hle
    have e2 : rdCt st = (⟨((rdN st).1 : Int), (rdN (rdN st).2).1⟩, (rdN (rdN st).2).2) := by unfold rdCt; rw [e]
    rw [er]
    show ((rdCt st).1 :: (rdV n (rdCt st).2).1, (rdV n (rdCt st).2).2) = _
    rw [e2]
    simp only
    rw [rdV_of h fun c hx => hc c (List.mem_cons_of_mem _ hx), Nat.min_eq_left (by omega)]
/-- What Read finds, by Get. -/
theorem readV_ref (b : List UInt8) : readV b = if (refV (rdC 16 (b, 0)).1 (rdC 16 (b, 0)).2).2 = ([], 0) ∧ vld 0 (refV (rdC 16 (b, 0)).1 (rdC 16 (b, 0)).2).1 = true then some (refV (rdC 16 (b, 0)).1 (rdC 16 (b, 0)).2).1 else none := by
  unfold readV
  generalize (rdC 16 (b, 0)).1 = n
  generalize (rdC 16 (b, 0)).2 = st
  by_cases h : (refV n st).2 = ([], 0) ∧ vld 0 (refV n st).1 = true
  · have e := rdV_of (n := n) (st := st) (by rw [h.1]) fun c hc => (vld_mem h.2 c hc).2
    rw [if_pos h, e, if_pos h]
  · rw [if_neg h, if_neg]
    intro k
    have e := refV_of (n := n) (st := st) (by rw [k.1])
    rw [← e] at k
    exact h k

/-! ### The document's reader told of what is left -/
def DS (w : World) (B g : Nat) (st : Rs) : Prop := ∃ A n c l at_, DRdr w B g A n c l at_ ((st.2 : Nat) : Int) ∧ l.drop at_ = st.1
def DSQ (w : World) (B g : Nat) (st : Rs) (v : Value) (e : Ending) (w' : World) : Prop := e = .returned v ∧ DS w' B g st ∧ w.grownBy w' (some g)
theorem dnum_any (w : World) (B g : Nat) (st : Rs) (h : DS w B g st) :
    Calls Tryd.prog 67 #[.pointer (some ⟨g, 0, none⟩)] w (DSQ w B g (rdN st).2 (.int .u64 ((rdN st).1 : Nat))) := by
  obtain ⟨A, n, c, l, at_, h, hd⟩ := h
  obtain ⟨s, er⟩ := st
  simp only at h hd
  subst hd
  unfold rdN
  by_cases he : er = 0
  · subst he
    refine (dn_number0 w B g n c at_ A l h).mono ?_
    rintro e w' ⟨rfl, h1, h2⟩
    exact ⟨rfl, ⟨A, n, c, l, _, h1, by rw [← List.drop_drop]; rfl⟩, h2⟩
  · simp only [if_neg he]
    refine (dn_number1 w B g n c at_ A l er (by omega) h).mono ?_
    rintro e w' ⟨rfl, h1, h2⟩
    exact ⟨rfl, ⟨A, n, c, l, _, h1, rfl⟩, h2⟩
theorem dcnt_any (w : World) (B g m : Nat) (hm : m ≤ 9223372036854775807) (st : Rs) (h : DS w B g st) :
    Calls Tryd.prog 66 #[.pointer (some ⟨g, 0, none⟩), .int .i64 m] w (DSQ w B g (rdC m st).2 (.int .i64 ((rdC m st).1 : Nat))) := by
  obtain ⟨A, n, c, l, at_, h, hd⟩ := h
  obtain ⟨s, er⟩ := st
  simp only at h hd
  subst hd
  unfold rdC
  by_cases he : er = 0
  · subst he
    refine (dn_count0 w B g n c at_ A l (m : Int) (by omega) h).mono ?_
    rintro e w' ⟨rfl, h1, h2⟩
    exact ⟨rfl, ⟨A, n, c, l, _, h1, by rw [← List.drop_drop]; rfl⟩, h2⟩
  · simp only [if_neg he]
    refine (dn_count1 w B g n c at_ A l er (m : Int) (by omega) h).mono ?_
    rintro e w' ⟨rfl, h1, h2⟩
    exact ⟨rfl, ⟨A, n, c, l, _, h1, rfl⟩, h2⟩
theorem dend2_any (w : World) (B g : Nat) (st : Rs) (h : DS w B g st) :
    Calls Tryd.prog 49 #[.pointer (some ⟨g, 0, none⟩)] w fun e w' => (∃ r : Int, e = .returned (.int .i64 r) ∧ (r = 0 ↔ st = ([], 0))) ∧ ∃ q, w' = w.drewN q := by
  obtain ⟨A, n, c, l, at_, h, hd⟩ := h
  obtain ⟨s, er⟩ := st
  simp only at h hd
  subst hd
  have hlen := h.own.len
  refine (dend_any w B g n c at_ A l _ h).mono ?_
  rintro e w' ⟨rfl, h1⟩
  refine ⟨⟨_, rfl, ?_⟩, h1⟩
  unfold endOf
  have hs : l.drop at_ = [] ↔ ¬ at_ < n := by rw [List.drop_eq_nil_iff]; omega
  by_cases he : er = 0
  · subst he
    by_cases hl : at_ < n
    · rw [if_pos ⟨rfl, hl⟩]
      refine ⟨fun e => by omega, fun e => ?_⟩
      have : l.drop at_ = [] := congrArg Prod.fst e
      exact absurd hl (hs.1 this)
    · rw [if_neg (fun e => hl e.2), hs.2 hl]
      simp
  · rw [if_neg (fun e => he (by have := e.1; omega))]
    refine ⟨fun e => absurd e (by omega), fun e => ?_⟩
    exact absurd (congrArg Prod.snd e) he
section
variable {α : Type} {E : En α} {W W' : World} {B B' g : Nat} {v : Value} {l : List α} {st : Rs}
theorem DS.blk (h : DS W B g st) : ∃ cs, BlkIs W g 101 cs ∧ B ≤ g := by
  obtain ⟨A, n, c, l, at_, h, _⟩ := h
  exact ⟨_, h.blk, h.hB⟩
theorem DS.push (h : DS W B g st) (hr : RwG E W B' v l) (h1 : 101 ≠ E.t) (h2 : 5 ≠ E.t) (hg : W.grownBy W' v.ownBlock) : DS W' B g st := by
  obtain ⟨A, n, c, b, at_, h, hd⟩ := h
  have nt : ∀ {j t cs}, v.ownBlock = some j → BlkIs W j t cs → t = E.t := fun hj hb => by
    obtain ⟨_, cs2, h2⟩ := own_blk hr hj
    have := hb.symm.trans h2
    simp only [Option.some.injEq, Obj.cells.injEq] at this
    exact this.2.1
  refine ⟨A, n, c, b, at_, h.grown hg (fun e => h1 (nt e.symm h.blk)) ?_, hd⟩
  cases e : (Value.slice A n c).ownBlock with
  | none => exact .inl rfl
  | some j =>
    right
    intro e2
    obtain ⟨_, cs2, h3⟩ := own_blk h.own e
    exact h2 (nt e2.symm h3)
theorem DS.nx (h : DS W B g st) (k : Nx W W') : DS W' B g st := by
  obtain ⟨A, n, c, b, at_, h, hd⟩ := h
  exact ⟨A, n, c, b, at_, h.below k, hd⟩
end

/-! ### Read -/
/-- Between two rounds: the reader, and the counts so far. -/
structure DvI (w : World) (g : Nat) (st : Rs) (v5 : Value) (acc : List Ct) (W : World) : Prop where
  nx : Nx w W
  rd : DS W w.heap.size g st
  rw_ : RwG ctE W w.heap.size v5 acc
section
variable {w W W' : World} {g : Nat} {st st' : Rs} {v5 : Value} {acc : List Ct}
theorem DvI.turn (h : DvI w g st v5 acc W) (hr : DS W' w.heap.size g st') (hg : W.grownBy W' (some g)) : DvI w g st' v5 acc W' := by
  obtain ⟨cs, hb, hB⟩ := h.rd.blk
  exact ⟨h.nx.turn1 hB hg, hr, h.rw_.turn hb (by decide) hg⟩
theorem DvI.next (h : DvI w g st v5 acc W) (k : Nx W W') : DvI w g st v5 acc W' := ⟨h.nx.trans k, h.rd.nx k, h.rw_.nx k⟩
theorem DvI.push (h : DvI w g st v5 acc W) {v' : Value} {acc' : List Ct} (hr : RwG ctE W' w.heap.size v' acc') (hg : W.grownBy W' v5.ownBlock) : DvI w g st v' acc' W' :=
  ⟨h.nx.grow h.rw_ (Nat.le_refl _) hg, h.rd.push h.rw_ (by decide) (by decide) hg, hr⟩
end
theorem refV_len : ∀ (n : Nat) (st : Rs), (refV n st).1.length ≤ n
  | 0, _ => Nat.le_refl _
  | n + 1, st => by
    unfold refV
    split
    · show (refV n _).1.length + 1 ≤ _; have := refV_len n (rdN (rdN st).2).2; omega
    · exact Nat.zero_le _
theorem refV_go {n : Nat} {st : Rs} (h : st.2 = 0) : refV (n + 1) st = (⟨((min (rdN st).1 17 : Nat) : Int), (rdN (rdN st).2).1⟩ :: (refV n (rdN (rdN st).2).2).1, (refV n (rdN (rdN st).2).2).2) := by
  show (if st.2 = 0 then _ else _) = _
  rw [if_pos h]
theorem refV_no {n : Nat} {st : Rs} (h : st.2 ≠ 0) : refV (n + 1) st = ([], st) := by
  show (if st.2 = 0 then _ else _) = _
  rw [if_neg h]
theorem DS.err {w : World} {B g : Nat} {st : Rs} (h : DS w B g st) : w.cell? ⟨g, 2, none⟩ = some (.int .i64 ((st.2 : Nat) : Int)) := by
  obtain ⟨A, n, c, l, at_, h, _⟩ := h
  exact h.c2

set_option maxRecDepth 100000 in
set_option maxHeartbeats 1000000 in
theorem rget_any (w W : World) (g : Nat) (st : Rs) (h : DvI w g st (.slice none 0 0) [] W) :
    Calls Tryd.prog 48 #[.pointer (some ⟨g, 0, none⟩)] W (Ret fun r w' => DvI w g (refV (rdC 16 st).1 (rdC 16 st).2).2 r (refV (rdC 16 st).1 (rdC 16 st).2).1 w') := by
  have I1 := Lib.hid h
  have CN := Lib.hid (dcnt_any W w.heap.size g 16 (by decide) st h.rd)
  clear h
  have hle := rdC_le 16 st
  generalize rdC 16 st = s0 at *
  obtain ⟨m, st1⟩ := s0
  simp only at hle
  obtain ⟨L, hL⟩ : ∃ L, refV m st1 = L := ⟨_, rfl⟩
  show Calls _ _ _ _ (Ret fun r w' => DvI w g (refV m st1).2 r (refV m st1).1 w')
  rw [hL]
  have HL := Lib.hid hL
  clear hL
  go_enter Tryd.func48, Tryd.ntmps48
  go_wp2_with fail
  refine CN.out.mono ?_
  rintro e w2 ⟨rfl, hr2, hg2⟩
  have I2 := Lib.hid (I1.out.turn hr2 hg2)
  clear CN I1 hr2 hg2
  go_wp2
  go_loopw [3, 4] (fun x5 x wr => ∃ (i : Nat) (A n c : _), x5 = .slice A n c ∧ x = .int .i64 i ∧ i ≤ m ∧ Hid (∃ st' acc, DvI w g st' (.slice A n c) acc wr ∧ acc.length + i = m ∧ (acc ++ (refV i st').1, (refV i st').2) = L)) (fun _ x _ => (intOf x).toNat)
  case atStart => exact ⟨m, _, _, _, rfl, rfl, Nat.le_refl _, st1, [], I2.out, by simp, by rw [← HL.out]; simp⟩
  case round =>
    obtain ⟨i, A5, n5, c5, rfl, rfl, hi, hh⟩ := hrel
    obtain ⟨st', acc, hI, hla, he⟩ := hh.out
    have hE := hI.rd.err
    cases i with
    | zero =>
      have he' : (acc, st') = L := by rw [← he]; simp [refV]
      subst he'
      have HI := Lib.hid hI
      clear hh hI he HL hE
      go_wp2
      go_ret
      exact ⟨_, rfl, HI.out⟩
    | succ i =>
      have e2 : decide ((0 : Int) < ((i + 1 : Nat) : Int)) = true := decide_eq_true (by omega)
      have e2b : (0 : Int) < ((i + 1 : Nat) : Int) := by omega
      cases z : (((st'.2 : Nat) : Int) == 0) with
      | false =>
        have hz : st'.2 ≠ 0 := fun e => by rw [e] at z; simp at z
        rw [refV_no hz, List.append_nil] at he
        subst he
        have HI := Lib.hid hI
        clear hh hI HL hz
        generalize i + 1 = j at *
        go_wp2
        go_ret
        exact ⟨_, rfl, HI.out⟩
      | true =>
        have hz : st'.2 = 0 := by simp at z; omega
        rw [refV_go hz] at he
        have hz2 : ((st'.2 : Nat) : Int) = 0 := by omega
        rw [hz2] at hE
        have hw : IntKind.i64.wrap (((i + 1 : Nat) : Int) - 1) = (i : Int) := by rw [IntWalk.i64_in _ (by omega)]; omega
        have he' : (acc ++ [⟨((min (rdN st').1 17 : Nat) : Int), (rdN (rdN st').2).1⟩] ++ (refV i (rdN (rdN st').2).2).1, (refV i (rdN (rdN st').2).2).2) = L := by
          rw [← he]; simp
        have HI := Lib.hid hI
        have HE := Lib.hid he'
        have HLA : Hid (acc.length + 1 + i = m) := by show _ = _; omega
        have HM : Hid (acc.length ≤ 16) := by show _ ≤ _; omega
        have HIM : Hid (i ≤ m) := by show _ ≤ _; omega
        have C1 := Lib.hid (dnum_any wr w.heap.size g st' hI.rd)
        have C2 : Hid (∀ V, DS V w.heap.size g (rdN st').2 → Calls Tryd.prog 67 #[.pointer (some ⟨g, 0, none⟩)] V (DSQ V w.heap.size g (rdN (rdN st').2).2 (.int .u64 ((rdN (rdN st').2).1 : Nat)))) := fun V hV => dnum_any V _ _ _ hV
        have hlt1 := rdN_lt st'
        clear hh hI he he' hla z hz hz2 HL
        generalize rdN (rdN st').2 = xn at *
        generalize rdN st' = xc at *
        obtain ⟨dv, s1⟩ := xc
        obtain ⟨vv, s2⟩ := xn
        simp only at C1 C2 HE hlt1
        generalize hj : i + 1 = j at *
        go_wp2_with fail
        refine C1.out.mono ?_
        rintro e w3 ⟨rfl, hr3, hg3⟩
        have I3 := Lib.hid (HI.out.turn hr3 hg3)
        clear C1 HI hr3 hg3 hE
        have C3 := Lib.hid (C2.out w3 I3.out.rd)
        clear C2
        rcases Nat.lt_trichotomy dv 17 with q | q | q
        · have p1 : (dv : Int) < 17 := by omega
          have p2 : ¬ 17 < dv := by omega
          have p3 : ¬ (17 : Int) < (dv : Int) := by omega
          have hcv : IntKind.i64.wrap (dv : Int) = (dv : Int) := IntWalk.i64_in _ (by omega)
          rw [Nat.min_eq_left (by omega)] at HE
          go_wp2_with fail
          refine C3.out.mono ?_
          rintro e w4 ⟨rfl, hr4, hg4⟩
          have I4 := Lib.hid (I3.out.turn hr4 hg4)
          clear C3 I3 hr4 hg4
          have NXT : Hid (∀ V v' w5, Nx w4 V → RwG ctE w5 w.heap.size v' (acc ++ [⟨(dv : Int), vv⟩]) → V.grownBy w5 (Value.slice A5 n5 c5).ownBlock → DvI w g s2 v' (acc ++ [⟨(dv : Int), vv⟩]) w5) := fun V v' w5 hv hr hg => (I4.out.next hv).push hr hg
          have LN : Hid (∀ p : Ct, acc.length + [p].length ≤ 1000000000) := fun p => by have := HM.out; simp only [List.length_singleton]; omega
          go_wp2_with (at_builtin; refine wpList_appG (E := ctE) 23 Tryd.underlying23 rfl _ _ rfl w.heap.size (.slice A5 n5 c5) _ acc [⟨(dv : Int), vv⟩] rfl rfl (I4.out.rw_.nx ((Nx.refl _).alloc _)) (rd_lit _ _ rfl) (LN.out _) (((I4.out.nx).alloc _).size) ?_; intro v1 w5 hrow1 hg1; have g1 := NXT.out _ v1 w5 ((Nx.refl _).alloc _) hrow1 hg1; obtain ⟨A6, n6, c6, rfl⟩ : ∃ A n c, v1 = .slice A n c := (by obtain ⟨A, c, e⟩ := hrow1.form; exact ⟨_, _, _, e⟩); have G1 := Lib.hid g1; clear g1 hrow1 hg1)
          go_roundw
          case rel => exact ⟨i, _, _, _, rfl, rfl, HIM.out, s2, _, G1.out, by rw [List.length_append]; exact HLA.out, HE.out⟩
          case measure => simp only [intOf, Int.toNat_natCast]; omega
        · subst q
          go_wp2_with fail
          refine C3.out.mono ?_
          rintro e w4 ⟨rfl, hr4, hg4⟩
          have I4 := Lib.hid (I3.out.turn hr4 hg4)
          clear C3 I3 hr4 hg4
          have NXT : Hid (∀ V v' w5, Nx w4 V → RwG ctE w5 w.heap.size v' (acc ++ [⟨17, vv⟩]) → V.grownBy w5 (Value.slice A5 n5 c5).ownBlock → DvI w g s2 v' (acc ++ [⟨17, vv⟩]) w5) := fun V v' w5 hv hr hg => (I4.out.next hv).push hr hg
          have LN : Hid (∀ p : Ct, acc.length + [p].length ≤ 1000000000) := fun p => by have := HM.out; simp only [List.length_singleton]; omega
          go_wp2_with (at_builtin; refine wpList_appG (E := ctE) 23 Tryd.underlying23 rfl _ _ rfl w.heap.size (.slice A5 n5 c5) _ acc [⟨17, vv⟩] rfl rfl (I4.out.rw_.nx ((Nx.refl _).alloc _)) (rd_lit _ _ rfl) (LN.out _) (((I4.out.nx).alloc _).size) ?_; intro v1 w5 hrow1 hg1; have g1 := NXT.out _ v1 w5 ((Nx.refl _).alloc _) hrow1 hg1; obtain ⟨A6, n6, c6, rfl⟩ : ∃ A n c, v1 = .slice A n c := (by obtain ⟨A, c, e⟩ := hrow1.form; exact ⟨_, _, _, e⟩); have G1 := Lib.hid g1; clear g1 hrow1 hg1)
          go_roundw
          case rel => exact ⟨i, _, _, _, rfl, rfl, HIM.out, s2, _, G1.out, by rw [List.length_append]; exact HLA.out, HE.out⟩
          case measure => simp only [intOf, Int.toNat_natCast]; omega
        · have p1 : ¬ (dv : Int) < 17 := by omega
          have p2 : ¬ dv < 17 := by omega
          have p3 : (17 : Int) < (dv : Int) := by omega
          rw [Nat.min_eq_right (by omega)] at HE
          go_wp2_with fail
          refine C3.out.mono ?_
          rintro e w4 ⟨rfl, hr4, hg4⟩
          have I4 := Lib.hid (I3.out.turn hr4 hg4)
          clear C3 I3 hr4 hg4
          have NXT : Hid (∀ V v' w5, Nx w4 V → RwG ctE w5 w.heap.size v' (acc ++ [⟨17, vv⟩]) → V.grownBy w5 (Value.slice A5 n5 c5).ownBlock → DvI w g s2 v' (acc ++ [⟨17, vv⟩]) w5) := fun V v' w5 hv hr hg => (I4.out.next hv).push hr hg
          have LN : Hid (∀ p : Ct, acc.length + [p].length ≤ 1000000000) := fun p => by have := HM.out; simp only [List.length_singleton]; omega
          go_wp2_with (at_builtin; refine wpList_appG (E := ctE) 23 Tryd.underlying23 rfl _ _ rfl w.heap.size (.slice A5 n5 c5) _ acc [⟨17, vv⟩] rfl rfl (I4.out.rw_.nx ((Nx.refl _).alloc _)) (rd_lit _ _ rfl) (LN.out _) (((I4.out.nx).alloc _).size) ?_; intro v1 w5 hrow1 hg1; have g1 := NXT.out _ v1 w5 ((Nx.refl _).alloc _) hrow1 hg1; obtain ⟨A6, n6, c6, rfl⟩ : ∃ A n c, v1 = .slice A n c := (by obtain ⟨A, c, e⟩ := hrow1.form; exact ⟨_, _, _, e⟩); have G1 := Lib.hid g1; clear g1 hrow1 hg1)
          go_roundw
          case rel => exact ⟨i, _, _, _, rfl, rfl, HIM.out, s2, _, G1.out, by rw [List.length_append]; exact HLA.out, HE.out⟩
          case measure => simp only [intOf, Int.toNat_natCast]; omega

set_option maxRecDepth 100000 in
set_option maxHeartbeats 1000000 in
theorem rread_any (w : World) (B n c : Nat) (A : Option Addr) (l : List UInt8) (h : Byt w B A n c l) (hB : B ≤ w.heap.size) (hn : n ≤ 1099511627776) :
    Calls Tryd.prog 19 #[.slice A n c] w (Ret2 fun r k w' => ReadR w.heap.size l r k w' ∧ Nx w w') := by
  have NW := Lib.hid (dnew_any w B n c A l h hB hn)
  have E : Hid (∀ r k w', ReadR w.heap.size l r k w' ↔ match readV l with
    | some l => RwG ctE w' w.heap.size r l ∧ k = 0
    | none => r = .slice none 0 0 ∧ k = 4) := fun _ _ _ => Iff.rfl
  have EV := Lib.hid (readV_ref l)
  have LV := refV_len (rdC 16 (l, 0)).1 (rdC 16 (l, 0)).2
  have hle := rdC_le 16 (l, 0)
  have GT : Hid (∀ W g, DvI w g (l, 0) (.slice none 0 0) [] W → Calls Tryd.prog 48 #[.pointer (some ⟨g, 0, none⟩)] W (Ret fun r w' => DvI w g (refV (rdC 16 (l, 0)).1 (rdC 16 (l, 0)).2).2 r (refV (rdC 16 (l, 0)).1 (rdC 16 (l, 0)).2).1 w')) := fun W g hI => rget_any w W g (l, 0) hI
  generalize ReadR w.heap.size l = R at *
  generalize readV l = rv at *
  generalize refV (rdC 16 (l, 0)).1 (rdC 16 (l, 0)).2 = L at *
  generalize (rdC 16 (l, 0)).1 = m at *
  clear h hB hn
  obtain ⟨acc, st'⟩ := L
  simp only at GT LV EV
  have HLV : Hid (acc.length ≤ 16) := by show _ ≤ _; omega
  clear LV hle
  go_enter Tryd.func19, Tryd.ntmps19
  go_wp2_with fail
  refine NW.out.mono ?_
  rintro e w1 ⟨g, A', c', rfl, hr, hn1⟩
  have I1 : Hid (DvI w g (l, 0) (.slice none 0 0) [] w1) := ⟨hn1, ⟨_, _, _, _, _, hr, rfl⟩, RwG.nil _ _⟩
  have G1 := Lib.hid (GT.out w1 g I1.out)
  clear NW hr hn1 GT
  go_wp2_with fail
  refine G1.out.mono ?_
  rintro e wr ⟨r5, rfl, hI⟩
  obtain ⟨A5, c5, rfl⟩ := hI.rw_.form
  have HI := Lib.hid hI
  have EN := Lib.hid (dend2_any wr w.heap.size g st' hI.rd)
  have CK : Hid (∀ W, Nx wr W → Calls Tryd.prog 21 #[.slice A5 acc.length c5] W fun e w' => e = .returned (.int .i64 (if vld 0 acc then 0 else 2)) ∧ Nx W w') := fun W hW => rcheck_any W _ acc ((hI.rw_.nx hW).rd) (by have := HLV.out; omega)
  clear hI G1 I1
  generalize acc.length = n5 at *
  go_wp2_with fail
  refine EN.out.mono ?_
  rintro e w3 ⟨⟨r, rfl, hr⟩, q, rfl⟩
  have N3 : Hid (Nx wr (wr.drewN q)) := (Nx.refl _).drewN q
  generalize wr.drewN q = w3 at *
  cases z : (r == 0) with
  | false =>
    have hst : st' ≠ ([], 0) := fun e => by rw [hr.2 e] at z; cases z
    have z2 : (r != 0) = true := by simp [bne, z]
    have FIN : Hid (∀ w', R (.slice none 0 0) 4 w') := fun w' => (E.out _ _ _).2 (by rw [EV.out, if_neg (fun e => hst e.1)]; exact ⟨rfl, rfl⟩)
    have NF := Lib.hid (HI.out.nx.trans N3.out)
    clear hr hst EV E CK HI
    go_wp2
    go_ret2
    exact ⟨_, _, rfl, FIN.out _, NF.out⟩
  | true =>
    have hst : st' = ([], 0) := hr.1 (by simpa using z)
    obtain rfl : r = 0 := by simpa using z
    have HST := Lib.hid hst
    clear hr hst z
    go_wp2_with fail
    refine (CK.out w3 N3.out).mono ?_
    rintro e w4 ⟨rfl, hn4⟩
    have N4 := Lib.hid (N3.out.trans hn4)
    clear hn4
    cases hv : vld 0 acc with
    | true =>
      have FIN : Hid (R (.slice A5 n5 c5) 0 w4) := (E.out _ _ _).2 (by rw [EV.out, if_pos ⟨HST.out, hv⟩]; exact ⟨HI.out.rw_.nx N4.out, rfl⟩)
      have NF := Lib.hid (HI.out.nx.trans N4.out)
      clear EV E CK HI hv
      go_wp2
      go_ret2
      exact ⟨_, _, rfl, FIN.out, NF.out⟩
    | false =>
      have FIN : Hid (∀ w', R (.slice none 0 0) 4 w') := fun w' => (E.out _ _ _).2 (by rw [EV.out, if_neg (fun e => by rw [e.2] at hv; cases hv)]; exact ⟨rfl, rfl⟩)
      have NF := Lib.hid (HI.out.nx.trans N4.out)
      clear EV E CK HI hv
      go_wp2
      go_ret2
      exact ⟨_, _, rfl, FIN.out _, NF.out⟩
end Go.Proofs.YtlmfjalkgapcgaaDoor

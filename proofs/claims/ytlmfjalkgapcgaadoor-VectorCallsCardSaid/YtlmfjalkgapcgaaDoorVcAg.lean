/- Package vector: against, the values of two vectors side by side. -/
import Derived.Test.YtlmfjalkgapcgaaDoorVcChk
import Derived.WalkMore
import Derived.BigQuiet
import Derived.Deep.LoopGhost
namespace Go.Proofs.YtlmfjalkgapcgaaDoor
open Go.RowKit
set_option linter.unusedVariables false

attribute [local go_sem] Oper.semAt_some

def Ret (P : Value → World → Prop) (e : Ending) (w' : World) : Prop := ∃ v, e = .returned v ∧ P v w'
/-- The pairs so far, and what is left of the others. -/
def AgI (w : World) (l o : List Ct) (i : Nat) (v5 : Value) (o' : List Ct) (wr : World) : Prop :=
  Nx w wr ∧ ∃ acc, RwG p3E wr w.heap.size v5 acc ∧ acc ++ ag (l.drop i) o' = ag l o ∧ acc.length + o'.length ≤ i + o.length
theorem ag_nil_r (o : List Ct) : ag [] o = o.map fun c => ⟨c.d, 0, c.n⟩ := by rw [ag]
theorem ag_less {c x : Ct} {l o : List Ct} (h : x.d < c.d) : ag (c :: l) (x :: o) = ⟨x.d, 0, x.n⟩ :: ag (c :: l) o := by rw [ag, if_pos h]
theorem ag_eq {c x : Ct} {l o : List Ct} (h : x.d = c.d) : ag (c :: l) (x :: o) = ⟨c.d, c.n, x.n⟩ :: ag l o := by rw [ag, if_neg (by omega), if_pos h]
theorem ag_more {c x : Ct} {l o : List Ct} (h : c.d < x.d) : ag (c :: l) (x :: o) = ⟨c.d, c.n, 0⟩ :: ag l (x :: o) := by rw [ag, if_neg (by omega), if_neg (by omega)]
theorem ag_last {c : Ct} {l : List Ct} : ag (c :: l) [] = ⟨c.d, c.n, 0⟩ :: ag l [] := by rw [ag]
section
variable {w wr wr' W w3 : World} {l o o' : List Ct} {i : Nat} {v5 v' : Value}
theorem AgI.nx (h : AgI w l o i v5 o' wr) (k : Nx wr wr') : AgI w l o i v5 o' wr' := by
  obtain ⟨h1, acc, h2, h3⟩ := h
  exact ⟨h1.trans k, acc, h2.nx k, h3⟩
/-- A pair is appended. -/
theorem AgI.push {acc : List P3} (h1 : Nx w W) (h2 : RwG p3E W w.heap.size v5 acc) (h3 : acc ++ ag (l.drop i) o' = ag l o) (h4 : acc.length + o'.length ≤ i + o.length) (p : P3) {i2 : Nat} {o2 : List Ct} (hlen : o2.length + 1 + i ≤ o'.length + i2) (he : ag (l.drop i) o' = p :: ag (l.drop i2) o2)
    (hr : RwG p3E w3 w.heap.size v' (acc ++ [p])) (hg : W.grownBy w3 v5.ownBlock) : AgI w l o i2 v' o2 w3 := by
  refine ⟨h1.grow h2 (Nat.le_refl _) hg, acc ++ [p], hr, ?_, ?_⟩
  · rw [← h3, he]; simp
  · simp only [List.length_append, List.length_singleton]; omega
end
theorem BlkIs.grow {α : Type} {E : En α} {W W' : World} {g B : Nat} {t : TypeId} {cs : Array Value} {v : Value} {l : List α} (hb : BlkIs W g t cs) (hr : RwG E W B v l) (ht : t ≠ E.t) (hg : W.grownBy W' v.ownBlock) : BlkIs W' g t cs :=
  hb.chd (Chd.of_grown hg) fun e => by
    obtain ⟨_, cs2, h2⟩ := own_blk hr e
    have := hb.symm.trans h2
    simp only [Option.some.injEq, Obj.cells.injEq] at this
    exact ht this.2.1

theorem RdG.cell2 {w : World} {A : Option Addr} {n c : Nat} {x : Ct} {l : List Ct} (h : RdG ctE w (.slice A n c) (x :: l)) : ∃ b o, A = some ⟨b, o, none⟩ ∧ w.cell? ⟨b, o, none⟩ = some (.int .i64 x.d) ∧ w.cell? ⟨b, o + 1, none⟩ = some (.int .u64 x.n) := by
  obtain ⟨b, o, e, h1, h2⟩ := ct_cells h 0 (by simp)
  exact ⟨b, o, e, by simpa using h1, by simpa using h2⟩
/-- Behind the first count. -/
theorem RdG.tail1 {w : World} {b o n c : Nat} {x : Ct} {l : List Ct} (h : RdG ctE w (.slice (some ⟨b, o, none⟩) n c) (x :: l)) (hc : c = 1) (hn : n = (x :: l).length) : RdG ctE w (.slice (some ⟨b, o, none⟩) 0 0) l := by
  have hcap := h.caps
  subst hc
  have h1 : n = 1 := by simp at hn; omega
  subst h1
  have := h.drop 1 (by simp) (some ⟨b, o, none⟩) (fun e => by have := hcap.1; omega)
  simpa using this
theorem RdG.tail2 {w : World} {b o n c : Nat} {x : Ct} {l : List Ct} (h : RdG ctE w (.slice (some ⟨b, o, none⟩) n c) (x :: l)) : RdG ctE w (.slice (some ⟨b, o + 2, none⟩) (n - 1) (c - 1)) l := by
  have := h.drop 1 (by simp) (some ⟨b, o + 2, none⟩) (fun e => by simp [add_plain]; rfl)
  simpa using this

set_option maxRecDepth 100000 in
set_option maxHeartbeats 4000000 in
theorem against_any (w : World) (v v2 : Value) (l o : List Ct) (h : RdG ctE w v l) (h2 : RdG ctE w v2 o) (hn : l.length + o.length ≤ 100000000) :
    Calls Tryd.prog 31 #[v, v2] w (Ret fun r w' => RwG p3E w' w.heap.size r (ag l o) ∧ Nx w w') := by
  obtain ⟨A, c, rfl⟩ := h.form
  obtain ⟨A2, c2, rfl⟩ := h2.form
  have HA := Lib.hid h
  have HB := Lib.hid h2
  clear h h2
  have HN := Lib.hid hn
  go_enter Tryd.func31, Tryd.ntmps31
  go_wp2
  go_step3
  go_wp2
  go_step3
  go_wp2
  go_loopw [1, 5, 13] (fun x1 x5 x13 wr => ∃ (i n : Nat) (A' : Option Addr) (c' : Nat), x1 = .slice A' n c' ∧ x13 = .int .i64 i ∧ i ≤ l.length ∧ (∃ A n c, x5 = .slice A n c) ∧ Hid (∃ o', RdG ctE w (.slice A' n c') o' ∧ AgI w l o i x5 o' wr)) (fun _ _ x _ => l.length - (intOf x).toNat)
  case atStart => exact ⟨0, _, _, _, rfl, rfl, Nat.zero_le _, ⟨none, 0, 0, rfl⟩, ⟨o, HB.out, Nx.refl _, [], RwG.nil _ _, rfl, by simp⟩⟩
  case round =>
    obtain ⟨i, n, A', c', rfl, rfl, hi, ⟨A5, n5, c5, rfl⟩, hh⟩ := hrel
    by_cases hlt : i < l.length
    · have e2 : decide ((i : Int) < (l.length : Int)) = true := by simpa using hlt
      have e2b : decide (i < l.length) = true := by simpa using hlt
      have e3 : (0 : Int) ≤ (i : Int) := by omega
      have e4 : (i : Int) < (l.length : Int) := by omega
      have hnx : Nx w wr := by obtain ⟨_, _, h, _⟩ := hh.out; exact h
      obtain ⟨b, o1, rfl, x0, x1⟩ := ct_cells (HA.out.nx hnx) i hlt
      have hw : IntKind.i64.wrap ((i : Int) + 1) = ((i + 1 : Nat) : Int) := by rw [IntWalk.i64_in _ (by omega)]; omega
      have HL := Lib.hid hlt
      have HQ : Hid (l.drop i = l[i] :: l.drop (i + 1)) := List.drop_eq_getElem_cons hlt
      generalize l[i] = q at *
      obtain ⟨W, hW⟩ : ∃ W, wr.alloc (.cells #[.int .i64 q.d, .int .u64 q.n] 29) = W := ⟨_, rfl⟩
      have IN : Hid (BlkIs W wr.heap.size 29 #[.int .i64 q.d, .int .u64 q.n] ∧ ∃ o', RdG ctE w (.slice A' n c') o' ∧ AgI w l o i (.slice A5 n5 c5) o' W) := by
        obtain ⟨o', h1, h2⟩ := hh.out
        exact ⟨by rw [← hW]; exact box_ct wr q, o', h1, by rw [← hW]; exact h2.nx ((Nx.refl wr).alloc _)⟩
      clear hh hnx hlt
      go_wp2
      generalize wr.heap.size = g at *
      clear x0 x1
      go_loopg [1, 5] n (fun m x1 x5 wr2 => ∃ (A' : Option Addr) (c' : Nat) (A n c : _), x1 = .slice A' m c' ∧ x5 = .slice A n c ∧ Hid (BlkIs wr2 g 29 #[.int .i64 q.d, .int .u64 q.n] ∧ ∃ o', RdG ctE w (.slice A' m c') o' ∧ AgI w l o i x5 o' wr2))
      case atStart => exact ⟨_, _, _, _, _, rfl, rfl, IN.out⟩
      case round =>
        obtain ⟨A', c', A5, n5, c5, rfl, rfl, hh⟩ := hrel
        obtain ⟨hb, o', hro, hnw, acc, ha1, ha2, ha3⟩ := hh.out
        have hm := hro.caps.1
        have LN : Hid (∀ p : P3, acc.length + [p].length ≤ 1000000000) := fun p => by have := HL.out; simp only [List.length_singleton]; omega
        have SZ : Hid (w.heap.size ≤ wr.heap.size) := hnw.size
        cases o' with
        | nil =>
          have f1 : decide ((0 : Int) < (gk : Int)) = false := by simp at hm ⊢; omega
          have f1b : decide (0 < gk) = false := by simp at hm ⊢; omega
          have NXT : Hid (∀ V v' w3, Nx wr V → RwG p3E w3 w.heap.size v' (acc ++ [⟨q.d, q.n, 0⟩]) → V.grownBy w3 (Value.slice A5 n5 c5).ownBlock →
              RdG ctE w (.slice A' gk c') [] ∧ AgI w l o (i + 1) v' [] w3) := fun V v' w3 hv hr hg => ⟨hro, AgI.push (hnw.trans hv) (ha1.nx hv) ha2 ha3 ⟨q.d, q.n, 0⟩ (by first | omega | (simp only [List.length_cons]; omega)) (by rw [HQ.out]; exact ag_last) hr hg⟩
          have ACC := Lib.hid ha1
          have BB := Lib.hid hb
          clear hro hnw ha1 ha2 ha3 hm hh hb
          go_wp2_with fail
          go_quiet (fail)
          have HV : Hid (Nx wr (wr.drewN nq)) := (Nx.refl wr).drewN nq
          generalize wr.drewN nq = V at *
          have c0 : V.cell? ⟨g, 0, none⟩ = some (.int .i64 q.d) := by rw [(BB.out.nx HV.out).cell]; rfl
          have c1 : V.cell? ⟨g, 1, none⟩ = some (.int .u64 q.n) := by rw [(BB.out.nx HV.out).cell]; rfl
          go_wp2_with (at_builtin; refine wpList_appG (E := p3E) 48 Tryd.underlying48 rfl _ _ rfl w.heap.size (.slice A5 n5 c5) _ acc [⟨q.d, q.n, 0⟩] rfl rfl (ACC.out.nx (HV.out.alloc _)) (rd_lit _ _ rfl) (LN.out _) (Nat.le_trans SZ.out (HV.out.alloc _).size) ?_; intro v1 w3 hrow1 hg1; have g1 := NXT.out _ v1 w3 (HV.out.alloc _) hrow1 hg1; obtain ⟨A6, n6, c6, rfl⟩ : ∃ A n c, v1 = .slice A n c := (by obtain ⟨A, c, e⟩ := hrow1.form; exact ⟨_, _, _, e⟩); have G1 := Lib.hid g1; clear g1 hrow1 hg1)
          go_roundw
          case rel => exact ⟨i + 1, _, _, _, rfl, rfl, HL.out, ⟨_, _, _, rfl⟩, _, G1.out⟩
          case measure => simp only [intOf, Int.toNat_natCast]; have := HL.out; omega
        | cons x o2 =>
          have f1 : decide ((0 : Int) < (gk : Int)) = true := by simp at hm ⊢; omega
          have f1b : decide (0 < gk) = true := by simp at hm ⊢; omega
          have f2 : (0 : Int) < (gk : Int) := by simp at hm ⊢; omega
          obtain ⟨b2, p2, rfl, y0, y1⟩ := (hro.nx hnw).cell2
          have c0 : wr.cell? ⟨g, 0, none⟩ = some (.int .i64 q.d) := by rw [hb.cell]; rfl

          cases d1 : decide (x.d ≤ q.d) with
          | false =>
            have NXT : Hid (∀ V v' w3, Nx wr V → RwG p3E w3 w.heap.size v' (acc ++ [⟨q.d, q.n, 0⟩]) → V.grownBy w3 (Value.slice A5 n5 c5).ownBlock →
                RdG ctE w (.slice (some ⟨b2, p2, none⟩) gk c') (x :: o2) ∧ AgI w l o (i + 1) v' (x :: o2) w3) := fun V v' w3 hv hr hg => ⟨hro, AgI.push (hnw.trans hv) (ha1.nx hv) ha2 ha3 ⟨q.d, q.n, 0⟩ (by first | omega | (simp only [List.length_cons]; omega)) (by rw [HQ.out]; exact ag_more (by simp at d1; omega)) hr hg⟩
            have ACC := Lib.hid ha1
            have BB := Lib.hid hb
            clear hro hnw ha1 ha2 ha3 hm hh hb
            go_wp2_with fail
            go_quiet (fail)
            have HV : Hid (Nx wr (wr.drewN nq)) := (Nx.refl wr).drewN nq
            generalize wr.drewN nq = V at *
            clear c0 y0 y1
            have c0 : V.cell? ⟨g, 0, none⟩ = some (.int .i64 q.d) := by rw [(BB.out.nx HV.out).cell]; rfl
            have c1 : V.cell? ⟨g, 1, none⟩ = some (.int .u64 q.n) := by rw [(BB.out.nx HV.out).cell]; rfl
            go_wp2_with (at_builtin; refine wpList_appG (E := p3E) 48 Tryd.underlying48 rfl _ _ rfl w.heap.size (.slice A5 n5 c5) _ acc [⟨q.d, q.n, 0⟩] rfl rfl (ACC.out.nx (HV.out.alloc _)) (rd_lit _ _ rfl) (LN.out _) (Nat.le_trans SZ.out (HV.out.alloc _).size) ?_; intro v1 w3 hrow1 hg1; have g1 := NXT.out _ v1 w3 (HV.out.alloc _) hrow1 hg1; obtain ⟨A6, n6, c6, rfl⟩ : ∃ A n c, v1 = .slice A n c := (by obtain ⟨A, c, e⟩ := hrow1.form; exact ⟨_, _, _, e⟩); have G1 := Lib.hid g1; clear g1 hrow1 hg1)
            go_roundw
            case rel => exact ⟨i + 1, _, _, _, rfl, rfl, HL.out, ⟨_, _, _, rfl⟩, _, G1.out⟩
            case measure => simp only [intOf, Int.toNat_natCast]; have := HL.out; omega
          | true =>
            clear y1
            cases d2 : (x.d == q.d) with
            | true =>
              by_cases hc1 : c' = 1
              · skip
                have NXT : Hid (∀ V v' w3, Nx wr V → RwG p3E w3 w.heap.size v' (acc ++ [⟨q.d, q.n, x.n⟩]) → V.grownBy w3 (Value.slice A5 n5 c5).ownBlock →
                    RdG ctE w (.slice (some ⟨b2, p2, none⟩) 0 0) o2 ∧ AgI w l o (i + 1) v' o2 w3) := fun V v' w3 hv hr hg => ⟨RdG.tail1 hro hc1 hm, AgI.push (hnw.trans hv) (ha1.nx hv) ha2 ha3 ⟨q.d, q.n, x.n⟩ (by first | omega | (simp only [List.length_cons]; omega)) (by rw [HQ.out]; exact ag_eq (by simpa using d2)) hr hg⟩
                have GK : Hid (0 < gk) := by have h0 : 0 < gk := (by simp at hm; omega); exact h0
                have ACC := Lib.hid ha1
                have BB := Lib.hid hb
                have XX := Lib.hid (hro.nx hnw)
                have q1 : (1 : Int) ≤ (gk : Int) := by simp at hm; omega
                have q2 : (gk : Int) ≤ (c' : Int) := by have := hro.caps.2.1; omega
                have q3 : (1 : Int) ≤ (c' : Int) := by omega
                have q4 : 1 ≤ gk := by omega
                have q5 : gk ≤ c' := by omega
                subst hc1
                clear hro hnw ha1 ha2 ha3 hm hh hb
                go_wp2_with fail
                go_quiet (fail)
                have HV : Hid (Nx wr (wr.drewN nq)) := (Nx.refl wr).drewN nq
                generalize wr.drewN nq = V at *
                have y0 : V.cell? ⟨b2, p2, none⟩ = some (.int .i64 x.d) := by obtain ⟨_, _, e, h, _⟩ := (XX.out.nx HV.out).cell2; cases e; exact h
                have y1 : V.cell? ⟨b2, p2 + 1, none⟩ = some (.int .u64 x.n) := by obtain ⟨_, _, e, _, h⟩ := (XX.out.nx HV.out).cell2; cases e; exact h
                have zb := box_ct V x
                obtain ⟨U, hU⟩ : ∃ U, V.alloc (.cells #[.int .i64 x.d, .int .u64 x.n] 29) = U := ⟨_, rfl⟩
                have HU : Hid (Nx wr U) := by rw [← hU]; exact HV.out.alloc _
                rw [hU] at zb
                have z0 : U.cell? ⟨V.heap.size, 0, none⟩ = some (.int .i64 x.d) := by rw [zb.cell]; rfl
                have z1 : U.cell? ⟨V.heap.size, 1, none⟩ = some (.int .u64 x.n) := by rw [zb.cell]; rfl
                clear zb
                have c0 : U.cell? ⟨g, 0, none⟩ = some (.int .i64 q.d) := by rw [(BB.out.nx HU.out).cell]; rfl
                have c1 : U.cell? ⟨g, 1, none⟩ = some (.int .u64 q.n) := by rw [(BB.out.nx HU.out).cell]; rfl
                go_wp2_with (at_builtin; refine wpList_appG (E := p3E) 48 Tryd.underlying48 rfl _ _ rfl w.heap.size (.slice A5 n5 c5) _ acc [⟨q.d, q.n, x.n⟩] rfl rfl (ACC.out.nx (HU.out.alloc _)) (rd_lit _ _ rfl) (LN.out _) (Nat.le_trans SZ.out (HU.out.alloc _).size) ?_; intro v1 w3 hrow1 hg1; have g1 := NXT.out _ v1 w3 (HU.out.alloc _) hrow1 hg1; obtain ⟨A6, n6, c6, rfl⟩ : ∃ A n c, v1 = .slice A n c := (by obtain ⟨A, c, e⟩ := hrow1.form; exact ⟨_, _, _, e⟩); have G1 := Lib.hid g1; clear g1 hrow1 hg1)
                go_roundw
                case rel => exact ⟨i + 1, _, _, _, rfl, rfl, HL.out, ⟨_, _, _, rfl⟩, _, G1.out⟩
                case measure => simp only [intOf, Int.toNat_natCast]; have := HL.out; omega
              · skip
                have NXT : Hid (∀ V v' w3, Nx wr V → RwG p3E w3 w.heap.size v' (acc ++ [⟨q.d, q.n, x.n⟩]) → V.grownBy w3 (Value.slice A5 n5 c5).ownBlock →
                    RdG ctE w (.slice (some ⟨b2, p2 + 2, none⟩) (gk - 1) (c' - 1)) o2 ∧ AgI w l o (i + 1) v' o2 w3) := fun V v' w3 hv hr hg => ⟨RdG.tail2 hro, AgI.push (hnw.trans hv) (ha1.nx hv) ha2 ha3 ⟨q.d, q.n, x.n⟩ (by first | omega | (simp only [List.length_cons]; omega)) (by rw [HQ.out]; exact ag_eq (by simpa using d2)) hr hg⟩
                have GK : Hid (gk - 1 < gk) := by have h0 : 0 < gk := (by simp at hm; omega); exact Nat.sub_lt h0 (by decide)
                have ACC := Lib.hid ha1
                have BB := Lib.hid hb
                have XX := Lib.hid (hro.nx hnw)
                have q1 : (1 : Int) ≤ (gk : Int) := by simp at hm; omega
                have q2 : (gk : Int) ≤ (c' : Int) := by have := hro.caps.2.1; omega
                have q3 : (1 : Int) ≤ (c' : Int) := by omega
                have q4 : 1 ≤ gk := by omega
                have q5 : gk ≤ c' := by omega
                have hc2 : ¬ 1 = c' := fun e => hc1 e.symm
                have hc3 : ¬ c' - 1 = 0 := by have := hro.caps.2.1; simp at hm; omega
                clear hro hnw ha1 ha2 ha3 hm hh hb
                go_wp2_with fail
                go_quiet (fail)
                have HV : Hid (Nx wr (wr.drewN nq)) := (Nx.refl wr).drewN nq
                generalize wr.drewN nq = V at *
                have y0 : V.cell? ⟨b2, p2, none⟩ = some (.int .i64 x.d) := by obtain ⟨_, _, e, h, _⟩ := (XX.out.nx HV.out).cell2; cases e; exact h
                have y1 : V.cell? ⟨b2, p2 + 1, none⟩ = some (.int .u64 x.n) := by obtain ⟨_, _, e, _, h⟩ := (XX.out.nx HV.out).cell2; cases e; exact h
                have zb := box_ct V x
                obtain ⟨U, hU⟩ : ∃ U, V.alloc (.cells #[.int .i64 x.d, .int .u64 x.n] 29) = U := ⟨_, rfl⟩
                have HU : Hid (Nx wr U) := by rw [← hU]; exact HV.out.alloc _
                rw [hU] at zb
                have z0 : U.cell? ⟨V.heap.size, 0, none⟩ = some (.int .i64 x.d) := by rw [zb.cell]; rfl
                have z1 : U.cell? ⟨V.heap.size, 1, none⟩ = some (.int .u64 x.n) := by rw [zb.cell]; rfl
                clear zb
                have c0 : U.cell? ⟨g, 0, none⟩ = some (.int .i64 q.d) := by rw [(BB.out.nx HU.out).cell]; rfl
                have c1 : U.cell? ⟨g, 1, none⟩ = some (.int .u64 q.n) := by rw [(BB.out.nx HU.out).cell]; rfl
                go_wp2_with (at_builtin; refine wpList_appG (E := p3E) 48 Tryd.underlying48 rfl _ _ rfl w.heap.size (.slice A5 n5 c5) _ acc [⟨q.d, q.n, x.n⟩] rfl rfl (ACC.out.nx (HU.out.alloc _)) (rd_lit _ _ rfl) (LN.out _) (Nat.le_trans SZ.out (HU.out.alloc _).size) ?_; intro v1 w3 hrow1 hg1; have g1 := NXT.out _ v1 w3 (HU.out.alloc _) hrow1 hg1; obtain ⟨A6, n6, c6, rfl⟩ : ∃ A n c, v1 = .slice A n c := (by obtain ⟨A, c, e⟩ := hrow1.form; exact ⟨_, _, _, e⟩); have G1 := Lib.hid g1; clear g1 hrow1 hg1)
                go_roundw
                case rel => exact ⟨i + 1, _, _, _, rfl, rfl, HL.out, ⟨_, _, _, rfl⟩, _, G1.out⟩
                case measure => simp only [intOf, Int.toNat_natCast]; have := HL.out; omega
            | false =>
              by_cases hc1 : c' = 1
              · skip
                have NXT : Hid (∀ V v' w3, Nx wr V → RwG p3E w3 w.heap.size v' (acc ++ [⟨x.d, 0, x.n⟩]) → V.grownBy w3 (Value.slice A5 n5 c5).ownBlock →
                    BlkIs w3 g 29 #[.int .i64 q.d, .int .u64 q.n] ∧ RdG ctE w (.slice (some ⟨b2, p2, none⟩) 0 0) o2 ∧ AgI w l o i v' o2 w3) := fun V v' w3 hv hr hg => ⟨(hb.nx hv).grow (ha1.nx hv) (by decide) hg, RdG.tail1 hro hc1 hm, AgI.push (hnw.trans hv) (ha1.nx hv) ha2 ha3 ⟨x.d, 0, x.n⟩ (by first | omega | (simp only [List.length_cons]; omega)) (by rw [HQ.out]; exact ag_less (by simp at d1 d2; omega)) hr hg⟩
                have GK : Hid (0 < gk) := by have h0 : 0 < gk := (by simp at hm; omega); exact h0
                have ACC := Lib.hid ha1
                have BB := Lib.hid hb
                have XX := Lib.hid (hro.nx hnw)
                have q1 : (1 : Int) ≤ (gk : Int) := by simp at hm; omega
                have q2 : (gk : Int) ≤ (c' : Int) := by have := hro.caps.2.1; omega
                have q3 : (1 : Int) ≤ (c' : Int) := by omega
                have q4 : 1 ≤ gk := by omega
                have q5 : gk ≤ c' := by omega
                subst hc1
                clear hro hnw ha1 ha2 ha3 hm hh hb
                go_wp2_with fail
                go_quiet (fail)
                have HV : Hid (Nx wr (wr.drewN nq)) := (Nx.refl wr).drewN nq
                generalize wr.drewN nq = V at *
                have y0 : V.cell? ⟨b2, p2, none⟩ = some (.int .i64 x.d) := by obtain ⟨_, _, e, h, _⟩ := (XX.out.nx HV.out).cell2; cases e; exact h
                have y1 : V.cell? ⟨b2, p2 + 1, none⟩ = some (.int .u64 x.n) := by obtain ⟨_, _, e, _, h⟩ := (XX.out.nx HV.out).cell2; cases e; exact h
                have zb := box_ct V x
                obtain ⟨U, hU⟩ : ∃ U, V.alloc (.cells #[.int .i64 x.d, .int .u64 x.n] 29) = U := ⟨_, rfl⟩
                have HU : Hid (Nx wr U) := by rw [← hU]; exact HV.out.alloc _
                rw [hU] at zb
                have z0 : U.cell? ⟨V.heap.size, 0, none⟩ = some (.int .i64 x.d) := by rw [zb.cell]; rfl
                have z1 : U.cell? ⟨V.heap.size, 1, none⟩ = some (.int .u64 x.n) := by rw [zb.cell]; rfl
                clear zb
                have c0 : U.cell? ⟨g, 0, none⟩ = some (.int .i64 q.d) := by rw [(BB.out.nx HU.out).cell]; rfl
                have c1 : U.cell? ⟨g, 1, none⟩ = some (.int .u64 q.n) := by rw [(BB.out.nx HU.out).cell]; rfl
                go_wp2_with (at_builtin; refine wpList_appG (E := p3E) 48 Tryd.underlying48 rfl _ _ rfl w.heap.size (.slice A5 n5 c5) _ acc [⟨x.d, 0, x.n⟩] rfl rfl (ACC.out.nx (HU.out.alloc _)) (rd_lit _ _ rfl) (LN.out _) (Nat.le_trans SZ.out (HU.out.alloc _).size) ?_; intro v1 w3 hrow1 hg1; have g1 := NXT.out _ v1 w3 (HU.out.alloc _) hrow1 hg1; obtain ⟨A6, n6, c6, rfl⟩ : ∃ A n c, v1 = .slice A n c := (by obtain ⟨A, c, e⟩ := hrow1.form; exact ⟨_, _, _, e⟩); have G1 := Lib.hid g1; clear g1 hrow1 hg1)
                go_roundg (0)
                case measure => exact GK.out
                case rel => exact ⟨_, _, _, _, _, rfl, rfl, G1.out.1, o2, G1.out.2⟩
              · skip
                have NXT : Hid (∀ V v' w3, Nx wr V → RwG p3E w3 w.heap.size v' (acc ++ [⟨x.d, 0, x.n⟩]) → V.grownBy w3 (Value.slice A5 n5 c5).ownBlock →
                    BlkIs w3 g 29 #[.int .i64 q.d, .int .u64 q.n] ∧ RdG ctE w (.slice (some ⟨b2, p2 + 2, none⟩) (gk - 1) (c' - 1)) o2 ∧ AgI w l o i v' o2 w3) := fun V v' w3 hv hr hg => ⟨(hb.nx hv).grow (ha1.nx hv) (by decide) hg, RdG.tail2 hro, AgI.push (hnw.trans hv) (ha1.nx hv) ha2 ha3 ⟨x.d, 0, x.n⟩ (by first | omega | (simp only [List.length_cons]; omega)) (by rw [HQ.out]; exact ag_less (by simp at d1 d2; omega)) hr hg⟩
                have GK : Hid (gk - 1 < gk) := by have h0 : 0 < gk := (by simp at hm; omega); exact Nat.sub_lt h0 (by decide)
                have ACC := Lib.hid ha1
                have BB := Lib.hid hb
                have XX := Lib.hid (hro.nx hnw)
                have q1 : (1 : Int) ≤ (gk : Int) := by simp at hm; omega
                have q2 : (gk : Int) ≤ (c' : Int) := by have := hro.caps.2.1; omega
                have q3 : (1 : Int) ≤ (c' : Int) := by omega
                have q4 : 1 ≤ gk := by omega
                have q5 : gk ≤ c' := by omega
                have hc2 : ¬ 1 = c' := fun e => hc1 e.symm
                have hc3 : ¬ c' - 1 = 0 := by have := hro.caps.2.1; simp at hm; omega
                clear hro hnw ha1 ha2 ha3 hm hh hb
                go_wp2_with fail
                go_quiet (fail)
                have HV : Hid (Nx wr (wr.drewN nq)) := (Nx.refl wr).drewN nq
                generalize wr.drewN nq = V at *
                have y0 : V.cell? ⟨b2, p2, none⟩ = some (.int .i64 x.d) := by obtain ⟨_, _, e, h, _⟩ := (XX.out.nx HV.out).cell2; cases e; exact h
                have y1 : V.cell? ⟨b2, p2 + 1, none⟩ = some (.int .u64 x.n) := by obtain ⟨_, _, e, _, h⟩ := (XX.out.nx HV.out).cell2; cases e; exact h
                have zb := box_ct V x
                obtain ⟨U, hU⟩ : ∃ U, V.alloc (.cells #[.int .i64 x.d, .int .u64 x.n] 29) = U := ⟨_, rfl⟩
                have HU : Hid (Nx wr U) := by rw [← hU]; exact HV.out.alloc _
                rw [hU] at zb
                have z0 : U.cell? ⟨V.heap.size, 0, none⟩ = some (.int .i64 x.d) := by rw [zb.cell]; rfl
                have z1 : U.cell? ⟨V.heap.size, 1, none⟩ = some (.int .u64 x.n) := by rw [zb.cell]; rfl
                clear zb
                have c0 : U.cell? ⟨g, 0, none⟩ = some (.int .i64 q.d) := by rw [(BB.out.nx HU.out).cell]; rfl
                have c1 : U.cell? ⟨g, 1, none⟩ = some (.int .u64 q.n) := by rw [(BB.out.nx HU.out).cell]; rfl
                go_wp2_with (at_builtin; refine wpList_appG (E := p3E) 48 Tryd.underlying48 rfl _ _ rfl w.heap.size (.slice A5 n5 c5) _ acc [⟨x.d, 0, x.n⟩] rfl rfl (ACC.out.nx (HU.out.alloc _)) (rd_lit _ _ rfl) (LN.out _) (Nat.le_trans SZ.out (HU.out.alloc _).size) ?_; intro v1 w3 hrow1 hg1; have g1 := NXT.out _ v1 w3 (HU.out.alloc _) hrow1 hg1; obtain ⟨A6, n6, c6, rfl⟩ : ∃ A n c, v1 = .slice A n c := (by obtain ⟨A, c, e⟩ := hrow1.form; exact ⟨_, _, _, e⟩); have G1 := Lib.hid g1; clear g1 hrow1 hg1)
                go_roundg (gk - 1)
                case measure => exact GK.out
                case rel => exact ⟨_, _, _, _, _, rfl, rfl, G1.out.1, o2, G1.out.2⟩
    · have e2 : decide ((i : Int) < (l.length : Int)) = false := by simpa using hlt
      have e2b : decide (i < l.length) = false := by simpa using hlt
      obtain ⟨o', hro, hnw, acc, ha1, ha2, ha3⟩ := hh.out
      have hm := hro.caps.1
      have HI : Hid (i = l.length) := by show i = l.length; omega
      have HR : Hid (RdG ctE w (.slice A' n c') o') := hro
      have LB : Hid (acc.length + o'.length ≤ l.length + o.length) := by show _ ≤ _; omega
      have AC : Hid (Nx w wr ∧ RwG p3E wr w.heap.size (.slice A5 n5 c5) acc ∧ acc ++ (o'.map fun c => ⟨c.d, 0, c.n⟩) = ag l o) := by
        rw [HI.out, List.drop_eq_nil_of_le (Nat.le_refl _), ag_nil_r] at ha2
        exact ⟨hnw, ha1, ha2⟩
      have HM : Hid (n = o'.length) := hm
      have LO : Hid (o'.length ≤ 100000000) := by show _ ≤ _; omega
      clear hh hro hnw ha1 ha2 ha3 hm hlt hi
      go_wp2
      go_loopw [5, 68] (fun x5 x68 wr => ∃ (k : Nat) (A n c : _), x5 = .slice A n c ∧ x68 = .int .i64 k ∧ Hid (k ≤ o'.length ∧ Nx w wr ∧ ∃ acc, RwG p3E wr w.heap.size x5 acc ∧ acc ++ ((o'.drop k).map fun c => ⟨c.d, 0, c.n⟩) = ag l o ∧ acc.length + (o'.length - k) ≤ l.length + o.length)) (fun _ x _ => o'.length - (intOf x).toNat)
      case atStart => exact ⟨0, _, _, _, rfl, rfl, Nat.zero_le _, AC.out.1, acc, AC.out.2.1, AC.out.2.2, LB.out⟩
      case round =>
        obtain ⟨k, A5, n5, c5, rfl, rfl, hh⟩ := hrel
        obtain ⟨hk, hnw, acc, ha1, ha2, ha3⟩ := hh.out
        have hm := HM.out
        have hlo := LO.out
        by_cases hlt : k < o'.length
        · have f2 : decide ((k : Int) < (n : Int)) = true := by simp; omega
          have f2b : decide (k < n) = true := by simp; omega
          have f3 : (0 : Int) ≤ (k : Int) := by omega
          have f4 : (k : Int) < (n : Int) := by omega
          obtain ⟨b2, p2, rfl, y0, y1⟩ := ct_cells (HR.out.nx hnw) k hlt
          have hw : IntKind.i64.wrap ((k : Int) + 1) = ((k + 1 : Nat) : Int) := by rw [IntWalk.i64_in _ (by omega)]; omega
          have hsn : (o'.drop k) = o'[k] :: o'.drop (k + 1) := List.drop_eq_getElem_cons hlt
          generalize o'[k] = x at *
          have NXT : Hid (∀ V v' w3, Nx wr V → RwG p3E w3 w.heap.size v' (acc ++ [⟨x.d, 0, x.n⟩]) → V.grownBy w3 (Value.slice A5 n5 c5).ownBlock →
              k + 1 ≤ o'.length ∧ Nx w w3 ∧ ∃ acc, RwG p3E w3 w.heap.size v' acc ∧ acc ++ ((o'.drop (k + 1)).map fun c => ⟨c.d, 0, c.n⟩) = ag l o ∧ acc.length + (o'.length - (k + 1)) ≤ l.length + o.length) := fun V v' w3 hv hr hg =>
            ⟨hlt, (hnw.trans hv).grow (ha1.nx hv) (Nat.le_refl _) hg, _, hr, by rw [← ha2, hsn]; simp, by simp only [List.length_append, List.length_singleton]; omega⟩
          have LN : Hid (∀ p : P3, acc.length + [p].length ≤ 1000000000) := fun p => by have := HN.out; simp only [List.length_singleton]; omega
          have SZ : Hid (w.heap.size ≤ wr.heap.size) := hnw.size
          have ACC := Lib.hid ha1
          have HK := Lib.hid hlt
          clear hh hnw ha1 ha2 ha3 hm hk hsn hlt hlo
          have zb := box_ct wr x
          obtain ⟨U, hU⟩ : ∃ U, wr.alloc (.cells #[.int .i64 x.d, .int .u64 x.n] 29) = U := ⟨_, rfl⟩
          have HU : Hid (Nx wr U) := by rw [← hU]; exact (Nx.refl _).alloc _
          rw [hU] at zb
          have z0 : U.cell? ⟨wr.heap.size, 0, none⟩ = some (.int .i64 x.d) := by rw [zb.cell]; rfl
          have z1 : U.cell? ⟨wr.heap.size, 1, none⟩ = some (.int .u64 x.n) := by rw [zb.cell]; rfl
          clear zb
          go_wp2_with (at_builtin; refine wpList_appG (E := p3E) 48 Tryd.underlying48 rfl _ _ rfl w.heap.size (.slice A5 n5 c5) _ acc [⟨x.d, 0, x.n⟩] rfl rfl (ACC.out.nx (HU.out.alloc _)) (rd_lit _ _ rfl) (LN.out _) (Nat.le_trans SZ.out (HU.out.alloc _).size) ?_; intro v1 w3 hrow1 hg1; have g1 := NXT.out _ v1 w3 (HU.out.alloc _) hrow1 hg1; obtain ⟨A6, n6, c6, rfl⟩ : ∃ A n c, v1 = .slice A n c := (by obtain ⟨A, c, e⟩ := hrow1.form; exact ⟨_, _, _, e⟩); have G1 := Lib.hid g1; clear g1 hrow1 hg1)
          go_roundw
          case rel => exact ⟨k + 1, _, _, _, rfl, rfl, G1.out⟩
          case measure => simp only [intOf, Int.toNat_natCast]; have := HK.out; omega
        · have f2 : decide ((k : Int) < (n : Int)) = false := by simp; omega
          have f2b : decide (k < n) = false := by simp; omega
          have FIN : Hid (RwG p3E wr w.heap.size (.slice A5 n5 c5) (ag l o) ∧ Nx w wr) := by
            rw [List.drop_eq_nil_of_le (by omega)] at ha2
            rw [← ha2]
            exact ⟨by simpa using ha1, hnw⟩
          clear hh hnw ha1 ha2 ha3 hm hk hlt hlo
          go_wp2
          go_ret
          exact ⟨_, rfl, FIN.out⟩
end Go.Proofs.YtlmfjalkgapcgaaDoor

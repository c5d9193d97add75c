/- Package table: the iterator over the nodes that are ahead. -/
import Derived.Test.YtekcphpeaoaaaaaTbStep
import Derived.Shelf.Abstract
import Derived.Shelf.RegionOpen
import Derived.OwnWalkIn
import Derived.TacticsInMore
import Derived.LoopNIn
import Derived.LoopIn
import Derived.Sort.BigQuietIn
namespace Go.Proofs.Ytekcphpeaoaaaaa
open Go.RowKit Go.Shelf
set_option linter.unusedVariables false

attribute [local go_sem] Oper.semAt_some

/-! ### A loop with a state that stands in no slot -/
def Hnd {σ : Type} (R : σ → Nat → Act → World → Prop) (m : Nat) (a : Act) (w : World) : Prop := ∃ s k, k < m ∧ R s k a w
theorem wpIn_loop_hnd {F : Fence} {n : Nat} {P : Program} {Q : Exit → Act → World → Prop} {c : Code} {σ : Type} (R : σ → Nat → Act → World → Prop) (s : σ) (m : Nat) {a : Act} {w : World} (h0 : R s m a w)
    (hr : ∀ s m a w, R s m a w → c.wpIn F n P (Exit.then (Hnd R m) Q) a w) : (Code.loop c).wpIn F n P Q a w := by
  refine wpIn_loop_rounds (m + 1) ?_
  have key : ∀ (k : Nat) (s : σ) (m : Nat) (a : Act) (w : World), m < k → R s m a w → Code.roundsIn F n P c Q k a w := by
    intro k
    induction k with
    | zero => intro s m a w h; omega
    | succ k ih =>
      intro s m a w hm h
      rw [roundsIn_succ]
      refine wpIn_mono (hr s m a w h) ?_
      intro e a' w' he
      cases e with
      | normal =>
        obtain ⟨s', m', hl, h'⟩ := (he : Hnd R m a' w')
        exact ih s' m' a' w' (by omega) h'
      | exit id => exact he
      | goto l => exact he
      | ret => exact he
      | panic ch => exact he
      | outgrown => exact he
  exact key (m + 1) s m a w (by omega) h0

/-- What is asked of each node ahead of its turn. -/
def Meant (X : Nat → Prop) (W0 : World) (fm : Nat) (caps : Array Value) (mt : Str → Bool) : Prop :=
  ∀ (W : World) (b : Nat) (k x : Str) (n : Int) (pl pr : Value), (∀ j, X j → W.heap[j]? = W0.heap[j]?) → NodeAt W b k x n pl pr →
    Calls Try.prog fm (#[ptrV b] ++ caps) W fun e W' => e = .returned (.bool (mt k)) ∧ ∃ q, W' = W.drewN q
def flowN (mt : Str → Bool) (xs : List KV) : Nat := (xs.takeWhile fun e => mt e.1).length
/-- Between two rounds. -/
structure Run (W0 w0 : World) (B pb : Nat) (X : Nat → Prop) (xs : List KV) (J : Nat → (Nat → Prop) → World → Prop) (i : Nat) (G : Nat → Prop) (s : Stk) (W : World) : Prop where
  pos : PosAt W B pb G s
  stk : StkIn w0 B s
  fl : flow s = xs.drop i
  j : J i G W
  fix : ∀ j, X j → W.heap[j]? = W0.heap[j]?
  ap : ∀ j, G j → ¬ X j
  sz : W0.heap.size ≤ W.heap.size
  bel : Below B w0 W

theorem Run.nx {W0 w0 : World} {B pb : Nat} {X : Nat → Prop} {xs : List KV} {J : Nat → (Nat → Prop) → World → Prop} {i : Nat} {G : Nat → Prop} {s : Stk} {A A' : World} (h : Run W0 w0 B pb X xs J i G s A) (hJ : ∀ i G A G' B, J i G A → Mv G A G' B → J i G' B) (hx : ∀ j, X j → j < W0.heap.size) (hB : B ≤ W0.heap.size) (hn : Nx A A') : Run W0 w0 B pb X xs J i G s A' :=
  ⟨h.pos.nx hn, h.stk, h.fl, hJ _ _ _ _ _ h.j (Mv.of_nx hn h.pos.cel), fun j hj => (hn.block j (Nat.lt_of_lt_of_le (hx j hj) h.sz)).trans (h.fix j hj), h.ap, Nat.le_trans h.sz hn.size, h.bel.trans (Below.mono hn (Nat.le_trans hB h.sz))⟩
theorem flow_head {xs ys : List KV} {i : Nat} {e : KV} (h : e :: ys = xs.drop i) : i < xs.length ∧ kvAt xs i = e ∧ ys = xs.drop (i + 1) := by
  have h1 : i < xs.length := by
    apply Nat.lt_of_not_le
    intro c
    rw [List.drop_eq_nil_of_le c] at h
    cases h
  rw [List.drop_eq_getElem_cons h1, List.cons.injEq] at h
  refine ⟨h1, ?_, h.2⟩
  unfold kvAt
  rw [List.getD_eq_getElem?_getD, List.getElem?_eq_getElem h1, h.1]
  rfl
theorem flowN_le (mt : Str → Bool) (xs : List KV) : flowN mt xs ≤ xs.length := by
  unfold flowN
  exact (List.takeWhile_sublist _).length_le
theorem kvAt_cons (e : KV) (r : List KV) (i : Nat) : kvAt (e :: r) (i + 1) = kvAt r i := rfl
theorem flowN_stop {mt : Str → Bool} : ∀ {xs : List KV} {i : Nat}, i ≤ flowN mt xs → i < xs.length → mt (kvAt xs i).1 = false → i = flowN mt xs
  | [], i, _, h, _ => by cases h
  | e :: r, 0, h, _, hm => by
    have hm : mt e.1 = false := hm
    unfold flowN
    rw [List.takeWhile_cons, hm]
    rfl
  | e :: r, i + 1, h, hl, hm => by
    unfold flowN at *
    rw [List.takeWhile_cons] at *
    cases c : mt e.1 with
    | false => rw [c] at h; simp at h
    | true =>
      rw [c] at h
      simp only [if_true, List.length_cons] at h hl ⊢
      have := flowN_stop (mt := mt) (xs := r) (i := i) (by unfold flowN; omega) (by omega) hm
      unfold flowN at this
      omega
theorem flowN_more {mt : Str → Bool} : ∀ {xs : List KV} {i : Nat}, i ≤ flowN mt xs → i < xs.length → mt (kvAt xs i).1 = true → i < flowN mt xs
  | [], i, _, h, _ => by cases h
  | e :: r, 0, h, _, hm => by
    have hm : mt e.1 = true := hm
    unfold flowN
    rw [List.takeWhile_cons, hm]
    simp
  | e :: r, i + 1, h, hl, hm => by
    unfold flowN at *
    rw [List.takeWhile_cons] at *
    cases c : mt e.1 with
    | false => rw [c] at h; simp at h
    | true =>
      rw [c] at h
      simp only [if_true, List.length_cons] at h hl ⊢
      have := flowN_more (mt := mt) (xs := r) (i := i) (by unfold flowN; omega) (by omega) hm
      unfold flowN at this
      omega
def OkX (w0 : World) (B : Nat) (xs : List KV) (i b : Nat) : Prop := b < B ∧ ∃ n pl pr, BlkIs w0 b 66 (nodeC (kvAt xs i).1 (kvAt xs i).2 n pl pr) ∧ (kvAt xs i).1.length ≤ 100000 ∧ (kvAt xs i).2.length ≤ 100000
def DnX (w0 : World) (B pb : Nat) (xs : List KV) (N : Nat) (G : Nat → Prop) (W : World) : Prop := ∃ s, PosAt W B pb G s ∧ StkIn w0 B s ∧ flow s = xs.drop N ∧ Below B w0 W
def RelX (l bp bm : Nat) (W0 w0 : World) (B pb : Nat) (X : Nat → Prop) (xs : List KV) (J : Nat → (Nat → Prop) → World → Prop) (N : Nat) (σ : Nat × (Nat → Prop) × Stk) (m : Nat) (a : Act) (W : World) : Prop :=
  m = xs.length - σ.1 ∧ σ.1 ≤ N ∧ Run W0 w0 B pb X xs J σ.1 σ.2.1 σ.2.2 W ∧
    ∃ u3 u5 u6 u7 u8 u9 u10 u11 u12 u13 u14 u15 u16 u17 u18 u19 u20 u21, a = { tmps := #[.func (.yield l) #[] #[], .pointer (some ⟨bp, 0, none⟩), .pointer (some ⟨bm, 0, none⟩), u3, topV σ.2.2, u5, u6, u7, u8, u9, u10, u11, u12, u13, u14, u15, u16, u17, u18, u19, u20, u21], defers := [] }

set_option maxRecDepth 100000 in
set_option maxHeartbeats 1000000 in
theorem while1_seq (W0 w0 : World) (B pb bp bm : Nat) (X G0 : Nat → Prop) (s0 : Stk) (xs : List KV) (mt : Str → Bool) (fm : Nat) (caps : Array Value) (hfm : (fm = 61 ∧ caps = #[]) ∨ (fm = 62 ∧ ∃ u, caps = #[u])) (n : Nat)
    (hX : ∀ j, X j → j < W0.heap.size) (hXB : ∀ j, j < B → X j) (hbp : X bp) (hbm : X bm) (cp : BlkIs W0 bp 74 #[ptrV pb]) (cm : BlkIs W0 bm 82 #[.func (.func fm) #[] caps]) (mean : Meant X W0 fm caps mt)
    (hp : PosAt W0 B pb G0 s0) (hs : StkIn w0 B s0) (hf : flow s0 = xs) (hap : ∀ j, G0 j → ¬ X j) (hbel : Below B w0 W0) (hB : B ≤ W0.heap.size) (hx : xs.length ≤ 100000000) :
    SeqX Fence.wide n Try.prog 66 #[.pointer (some ⟨bp, 0, none⟩), .pointer (some ⟨bm, 0, none⟩)] (fun b : Nat => #[ptrV b]) (OkX w0 B xs) X (flowN mt xs) (DnX w0 B pb xs (flowN mt xs)) G0 W0 := by
  intro l J Jx W hW hJ hJx hY h0
  have R0 : Run W0 w0 B pb X xs J 0 G0 s0 W := ⟨hp.nx hW, hs, by rw [hf]; rfl, h0, fun j hj => hW.block j (hX j hj), hap, hW.size, hbel.trans (Below.mono hW hB)⟩
  have BX : Hid (∀ i G s A, Run W0 w0 B pb X xs J i G s A → A.cell? ⟨bp, 0, none⟩ = some (ptrV pb) ∧ A.cell? ⟨bm, 0, none⟩ = some (.func (.func fm) #[] caps)) := fun i G s A h =>
    ⟨by rw [BlkIs.cell (show BlkIs A bp _ _ from (h.fix bp hbp).trans cp)]; rfl, by rw [BlkIs.cell (show BlkIs A bm _ _ from (h.fix bm hbm).trans cm)]; rfl⟩
  have HR0 := Lib.hid R0
  have HJ := Lib.hid hJ
  have HJX := Lib.hid hJx
  have HY := Lib.hid hY
  have HM := Lib.hid mean
  have HXX := Lib.hid hX
  have HXB := Lib.hid hXB
  have HB := Lib.hid hB
  have NXT : Hid (∀ i G s A, Run W0 w0 B pb X xs J i G s A → Calls Try.prog 63 #[ptrV pb] A fun e A' => e = .returned (topV s) ∧ ∃ q, A' = A.drewN q) := fun i G s A h =>
    next_any A B pb G s h.pos (by have h1 := stk_len h.stk; rw [h.fl, List.length_drop] at h1; omega)
  clear hp hs hf hap hbel hB hX hXB hbp hbm cp cm mean R0 hJ hJx hY h0
  rcases hfm with ⟨rfl, rfl⟩ | ⟨rfl, u, rfl⟩
  · refine callsIn_of_wp Try.func66 rfl trivial ?_ rfl
    simp only [Try.ntmps66, List.size_toArray, List.length_cons, List.length_nil, Nat.reduceAdd, Nat.reduceSub, Array.replicate_succ, Array.replicate_zero, List.push_toArray, List.append_toArray, List.nil_append, List.cons_append]
    obtain ⟨d0, d1⟩ := BX.out _ _ _ _ HR0.out
    have NX := Lib.hid (NXT.out _ _ _ _ HR0.out)
    unfold ptrV at d0 NX
    gi_wp2_with fail
    refine ⟨trivial, (fun h => by cases h), ?_⟩
    refine (callsIn_wide.2 NX.out).mono ?_
    rintro e w' ⟨rfl, q, rfl⟩
    have HR1 := Lib.hid (HR0.out.nx HJ.out HXX.out HB.out (Nx.drewN (Nx.refl _) q))
    clear NX d0 d1
    generalize W.drewN q = W1 at *
    gi_wp2_with fail
    refine wpIn_loop_hnd (RelX l bp bm W0 w0 B pb X xs J (flowN mt xs)) (0, G0, s0) xs.length ⟨rfl, Nat.zero_le _, HR1.out, undef, _, _, undef, undef, undef, undef, undef, undef, undef, undef, undef, undef, undef, undef, undef, undef, undef, rfl⟩ ?_
    clear HR0 HR1 W1 hW W
    rintro ⟨i, G, s⟩ m a W ⟨hm, hi, hrun, u3, u5, u6, u7, u8, u9, u10, u11, u12, u13, u14, u15, u16, u17, u18, u19, u20, u21, rfl⟩
    simp only at hm hi hrun
    have RUN := Lib.hid hrun
    have HM1 := Lib.hid hm
    have HI := Lib.hid hi
    obtain ⟨d0, d1⟩ := BX.out _ _ _ _ hrun
    cases s with
    | nil =>
      have FIN : Hid (∃ G, J (flowN mt xs) G W ∧ DnX w0 B pb xs (flowN mt xs) G W) := by
        have h1 := hrun.fl
        have h2 : xs.length ≤ i := List.drop_eq_nil_iff.1 h1.symm
        have h3 := flowN_le mt xs
        obtain rfl : i = flowN mt xs := by omega
        exact ⟨G, hrun.j, [], hrun.pos, hrun.stk, hrun.fl, hrun.bel⟩
      clear hrun hm hi d0 d1
      unfold topV
      gi_wp2_with fail
      refine ⟨(fun _ h => by cases h), ?_⟩
      gi_wp2
      go_end0
      exact ⟨⟨_, rfl⟩, .inl FIN.out⟩
    | cons e s =>
      obtain ⟨b, t⟩ := e
      obtain ⟨hin, hne, hsr, h100⟩ := hrun.stk _ List.mem_cons_self
      cases t with
      | nil => exact absurd rfl hne
      | nd lt' k x r =>
        obtain ⟨b', pl, pr, e, hb, hk, hl, hr, k1, k2⟩ := hin
        simp only [ptrV, Value.pointer.injEq, Option.some.injEq, Addr.mk.injEq, and_true] at e
        subst e
        obtain ⟨f1, f2, f3⟩ := flow_head (hrun.fl : (k, x) :: (r.pairs ++ flow s) = xs.drop i)
        have MC := Lib.hid (HM.out W b k x _ _ _ hrun.fix (node_at (hk.at_ hrun.bel hb)))
        have OK : Hid (OkX w0 B xs i b) := ⟨hb, (T.nd lt' k x r).size, pl, pr, by rw [f2]; exact hk, by rw [f2]; exact k1, by rw [f2]; exact k2⟩
        have F3 := Lib.hid f3
        have RX := Lib.hid (fun q => hrun.nx HJ.out HXX.out HB.out (Nx.drewN (Nx.refl W) q))
        cases hmt : mt k with
        | false =>
          rw [hmt] at MC
          have FIN : Hid (∀ q, ∃ G, J (flowN mt xs) G (W.drewN q) ∧ DnX w0 B pb xs (flowN mt xs) G (W.drewN q)) := fun q => by
            obtain rfl : i = flowN mt xs := flowN_stop hi f1 (by rw [f2]; exact hmt)
            have h := RX.out q
            exact ⟨G, h.j, _, h.pos, h.stk, h.fl, h.bel⟩
          clear hrun hm hi f1 f2 f3 hmt hk hl hr hsr h100 hb hne
          unfold topV
          unfold ptrV at *
          gi_wp2_with fail
          refine ⟨trivial, (fun h => by cases h), ?_⟩
          refine (callsIn_wide.2 MC.out).mono ?_
          rintro e w' ⟨rfl, q, rfl⟩
          gi_wp2
          go_end0
          exact ⟨⟨_, rfl⟩, .inl (FIN.out q)⟩
        | true =>
          rw [hmt] at MC
          have hN : Hid (i < flowN mt xs) := flowN_more hi f1 (by rw [f2]; exact hmt)
          have SP := Lib.hid (fun (q : Nat) => step_any w0 (W.drewN q) B pb 1000000000 G b lt' k x r s (RX.out q).bel (by have := hrun.sz; have := HB.out; exact Nat.le_trans HB.out hrun.sz) (RX.out q).stk (RX.out q).pos (by
            have h1 := stk_len hrun.stk
            rw [hrun.fl, List.length_drop] at h1
            simp only [List.length_cons] at h1
            have h2 : (T.nd lt' k x r).size ≤ 100000000 := h100
            omega) (Nat.le_refl _))
          have HLT := Lib.hid f1
          clear hrun hm hi f1 f2 f3 hmt hk hl hr hsr h100 hb hne
          unfold topV
          unfold ptrV at *
          gi_wp2_with fail
          refine ⟨trivial, (fun h => by cases h), ?_⟩
          refine (callsIn_wide.2 MC.out).mono ?_
          rintro e w' ⟨rfl, q, rfl⟩
          have R2 := Lib.hid (RX.out q)
          have SP2 := Lib.hid (SP.out q)
          clear SP RX MC RUN d0 d1
          generalize W.drewN q = W2 at *
          obtain ⟨d0, d1⟩ := BX.out _ _ _ _ R2.out
          gi_wp2_with fail
          refine ⟨trivial, (fun h => by cases h), ?_⟩
          refine (callsIn_wide.2 SP2.out).mono ?_
          rintro e W3 ⟨rfl, hmv⟩
          clear d0 d1 SP2
          obtain ⟨G', s', hp3, hm3, hs3, hf3, hl3⟩ := hmv
          have R3 : Hid (PosAt W3 B pb G' s' ∧ J i G' W3 ∧ (∀ j, X j → W3.heap[j]? = W0.heap[j]?) ∧ (∀ j, G' j → ¬ X j) ∧ W0.heap.size ≤ W3.heap.size ∧ Below B w0 W3) := by
            have r := R2.out
            refine ⟨hp3, HJ.out _ _ _ _ _ r.j hm3, fun j hj => ?_, fun j hj hx => ?_, Nat.le_trans r.sz hm3.chd.size, r.bel.trans (mv_below hm3 r.pos.ge (Nat.le_trans HB.out r.sz))⟩
            · exact (hm3.chd.block j (Nat.lt_of_lt_of_le (HXX.out j hj) r.sz) (fun e => r.ap j e hj)).trans (r.fix j hj)
            · rcases (hm3.new j hj).1 with e | e
              · exact r.ap j e hx
              · have := HXX.out j hx; have := r.sz; omega
          have S3 := Lib.hid hs3
          have FL3 : Hid (flow s' = xs.drop (i + 1)) := by rw [hf3]; exact F3.out
          obtain ⟨fn, tmps, assign, body, hy, hR⟩ := HY.out i b G' W3 R3.out.2.1 hN.out OK.out hp3.cel
          have PC := Lib.hid hp3
          clear hp3 hm3 hs3 hf3 hl3
          have HRR := Lib.hid hR
          clear hR
          gi_wp2_with fail
          refine ⟨(fun h => by cases h), ?_⟩
          refine HRR.out.mono ?_
          clear HRR hy
          rintro e W4 (⟨rfl, hJ4, hk4⟩ | ⟨rfl, hJx4⟩)
          · have R4 : Hid (Run W0 w0 B pb X xs J (i + 1) G' s' W4) := by
              obtain ⟨q1, q2, q3, q4, q5, q6⟩ := R3.out
              refine ⟨q1.kp hk4, S3.out, FL3.out, hJ4, fun j hj => (hk4.fix hj (Nat.lt_of_lt_of_le (HXX.out j hj) q5)).trans (q3 j hj), q4, Nat.le_trans q5 hk4.size, ?_⟩
              exact q6.trans ⟨hk4.os, hk4.tape, hk4.output, hk4.size, fun j hj => hk4.fix (HXB.out j hj) (Nat.lt_of_lt_of_le (HXX.out j (HXB.out j hj)) q5)⟩
            clear hJ4 hk4
            obtain ⟨d0, d1⟩ := BX.out _ _ _ _ R4.out
            have NX := Lib.hid (NXT.out _ _ _ _ R4.out)
            gi_wp2_with fail
            refine ⟨trivial, (fun h => by cases h), ?_⟩
            refine (callsIn_wide.2 NX.out).mono ?_
            rintro e w' ⟨rfl, q, rfl⟩
            have R5 := Lib.hid (R4.out.nx HJ.out HXX.out HB.out (Nx.drewN (Nx.refl W4) q))
            have hlt : xs.length - (i + 1) < m := by have := HM1.out; have := HLT.out; omega
            have hle : i + 1 ≤ flowN mt xs := hN.out
            clear NX d0 d1
            gi_wp2_with fail
            exact ⟨(i + 1, G', s'), _, hlt, rfl, hle, R5.out, u3, _, _, _, _, _, _, _, _, _, _, _, _, _, _, _, _, _, rfl⟩
          · have FIN : Hid (∃ i G, Jx i G W4) := ⟨_, _, hJx4⟩
            clear hJx4
            gi_wp2
            refine bodyPost_ret (results_none rfl _ _ _) rfl ?_
            exact ⟨⟨_, rfl⟩, .inr FIN.out⟩
  · refine callsIn_of_wp Try.func66 rfl trivial ?_ rfl
    simp only [Try.ntmps66, List.size_toArray, List.length_cons, List.length_nil, Nat.reduceAdd, Nat.reduceSub, Array.replicate_succ, Array.replicate_zero, List.push_toArray, List.append_toArray, List.nil_append, List.cons_append]
    obtain ⟨d0, d1⟩ := BX.out _ _ _ _ HR0.out
    have NX := Lib.hid (NXT.out _ _ _ _ HR0.out)
    unfold ptrV at d0 NX
    gi_wp2_with fail
    refine ⟨trivial, (fun h => by cases h), ?_⟩
    refine (callsIn_wide.2 NX.out).mono ?_
    rintro e w' ⟨rfl, q, rfl⟩
    have HR1 := Lib.hid (HR0.out.nx HJ.out HXX.out HB.out (Nx.drewN (Nx.refl _) q))
    clear NX d0 d1
    generalize W.drewN q = W1 at *
    gi_wp2_with fail
    refine wpIn_loop_hnd (RelX l bp bm W0 w0 B pb X xs J (flowN mt xs)) (0, G0, s0) xs.length ⟨rfl, Nat.zero_le _, HR1.out, undef, _, _, undef, undef, undef, undef, undef, undef, undef, undef, undef, undef, undef, undef, undef, undef, undef, rfl⟩ ?_
    clear HR0 HR1 W1 hW W
    rintro ⟨i, G, s⟩ m a W ⟨hm, hi, hrun, u3, u5, u6, u7, u8, u9, u10, u11, u12, u13, u14, u15, u16, u17, u18, u19, u20, u21, rfl⟩
    simp only at hm hi hrun
    have RUN := Lib.hid hrun
    have HM1 := Lib.hid hm
    have HI := Lib.hid hi
    obtain ⟨d0, d1⟩ := BX.out _ _ _ _ hrun
    cases s with
    | nil =>
      have FIN : Hid (∃ G, J (flowN mt xs) G W ∧ DnX w0 B pb xs (flowN mt xs) G W) := by
        have h1 := hrun.fl
        have h2 : xs.length ≤ i := List.drop_eq_nil_iff.1 h1.symm
        have h3 := flowN_le mt xs
        obtain rfl : i = flowN mt xs := by omega
        exact ⟨G, hrun.j, [], hrun.pos, hrun.stk, hrun.fl, hrun.bel⟩
      clear hrun hm hi d0 d1
      unfold topV
      gi_wp2_with fail
      refine ⟨(fun _ h => by cases h), ?_⟩
      gi_wp2
      go_end0
      exact ⟨⟨_, rfl⟩, .inl FIN.out⟩
    | cons e s =>
      obtain ⟨b, t⟩ := e
      obtain ⟨hin, hne, hsr, h100⟩ := hrun.stk _ List.mem_cons_self
      cases t with
      | nil => exact absurd rfl hne
      | nd lt' k x r =>
        obtain ⟨b', pl, pr, e, hb, hk, hl, hr, k1, k2⟩ := hin
        simp only [ptrV, Value.pointer.injEq, Option.some.injEq, Addr.mk.injEq, and_true] at e
        subst e
        obtain ⟨f1, f2, f3⟩ := flow_head (hrun.fl : (k, x) :: (r.pairs ++ flow s) = xs.drop i)
        have MC := Lib.hid (HM.out W b k x _ _ _ hrun.fix (node_at (hk.at_ hrun.bel hb)))
        have OK : Hid (OkX w0 B xs i b) := ⟨hb, (T.nd lt' k x r).size, pl, pr, by rw [f2]; exact hk, by rw [f2]; exact k1, by rw [f2]; exact k2⟩
        have F3 := Lib.hid f3
        have RX := Lib.hid (fun q => hrun.nx HJ.out HXX.out HB.out (Nx.drewN (Nx.refl W) q))
        cases hmt : mt k with
        | false =>
          rw [hmt] at MC
          have FIN : Hid (∀ q, ∃ G, J (flowN mt xs) G (W.drewN q) ∧ DnX w0 B pb xs (flowN mt xs) G (W.drewN q)) := fun q => by
            obtain rfl : i = flowN mt xs := flowN_stop hi f1 (by rw [f2]; exact hmt)
            have h := RX.out q
            exact ⟨G, h.j, _, h.pos, h.stk, h.fl, h.bel⟩
          clear hrun hm hi f1 f2 f3 hmt hk hl hr hsr h100 hb hne
          unfold topV
          unfold ptrV at *
          gi_wp2_with fail
          refine ⟨trivial, (fun h => by cases h), ?_⟩
          refine (callsIn_wide.2 MC.out).mono ?_
          rintro e w' ⟨rfl, q, rfl⟩
          gi_wp2
          go_end0
          exact ⟨⟨_, rfl⟩, .inl (FIN.out q)⟩
        | true =>
          rw [hmt] at MC
          have hN : Hid (i < flowN mt xs) := flowN_more hi f1 (by rw [f2]; exact hmt)
          have SP := Lib.hid (fun (q : Nat) => step_any w0 (W.drewN q) B pb 1000000000 G b lt' k x r s (RX.out q).bel (by have := hrun.sz; have := HB.out; exact Nat.le_trans HB.out hrun.sz) (RX.out q).stk (RX.out q).pos (by
            have h1 := stk_len hrun.stk
            rw [hrun.fl, List.length_drop] at h1
            simp only [List.length_cons] at h1
            have h2 : (T.nd lt' k x r).size ≤ 100000000 := h100
            omega) (Nat.le_refl _))
          have HLT := Lib.hid f1
          clear hrun hm hi f1 f2 f3 hmt hk hl hr hsr h100 hb hne
          unfold topV
          unfold ptrV at *
          gi_wp2_with fail
          refine ⟨trivial, (fun h => by cases h), ?_⟩
          refine (callsIn_wide.2 MC.out).mono ?_
          rintro e w' ⟨rfl, q, rfl⟩
          have R2 := Lib.hid (RX.out q)
          have SP2 := Lib.hid (SP.out q)
          clear SP RX MC RUN d0 d1
          generalize W.drewN q = W2 at *
          obtain ⟨d0, d1⟩ := BX.out _ _ _ _ R2.out
          gi_wp2_with fail
          refine ⟨trivial, (fun h => by cases h), ?_⟩
          refine (callsIn_wide.2 SP2.out).mono ?_
          rintro e W3 ⟨rfl, hmv⟩
          clear d0 d1 SP2
          obtain ⟨G', s', hp3, hm3, hs3, hf3, hl3⟩ := hmv
          have R3 : Hid (PosAt W3 B pb G' s' ∧ J i G' W3 ∧ (∀ j, X j → W3.heap[j]? = W0.heap[j]?) ∧ (∀ j, G' j → ¬ X j) ∧ W0.heap.size ≤ W3.heap.size ∧ Below B w0 W3) := by
            have r := R2.out
            refine ⟨hp3, HJ.out _ _ _ _ _ r.j hm3, fun j hj => ?_, fun j hj hx => ?_, Nat.le_trans r.sz hm3.chd.size, r.bel.trans (mv_below hm3 r.pos.ge (Nat.le_trans HB.out r.sz))⟩
            · exact (hm3.chd.block j (Nat.lt_of_lt_of_le (HXX.out j hj) r.sz) (fun e => r.ap j e hj)).trans (r.fix j hj)
            · rcases (hm3.new j hj).1 with e | e
              · exact r.ap j e hx
              · have := HXX.out j hx; have := r.sz; omega
          have S3 := Lib.hid hs3
          have FL3 : Hid (flow s' = xs.drop (i + 1)) := by rw [hf3]; exact F3.out
          obtain ⟨fn, tmps, assign, body, hy, hR⟩ := HY.out i b G' W3 R3.out.2.1 hN.out OK.out hp3.cel
          have PC := Lib.hid hp3
          clear hp3 hm3 hs3 hf3 hl3
          have HRR := Lib.hid hR
          clear hR
          gi_wp2_with fail
          refine ⟨(fun h => by cases h), ?_⟩
          refine HRR.out.mono ?_
          clear HRR hy
          rintro e W4 (⟨rfl, hJ4, hk4⟩ | ⟨rfl, hJx4⟩)
          · have R4 : Hid (Run W0 w0 B pb X xs J (i + 1) G' s' W4) := by
              obtain ⟨q1, q2, q3, q4, q5, q6⟩ := R3.out
              refine ⟨q1.kp hk4, S3.out, FL3.out, hJ4, fun j hj => (hk4.fix hj (Nat.lt_of_lt_of_le (HXX.out j hj) q5)).trans (q3 j hj), q4, Nat.le_trans q5 hk4.size, ?_⟩
              exact q6.trans ⟨hk4.os, hk4.tape, hk4.output, hk4.size, fun j hj => hk4.fix (HXB.out j hj) (Nat.lt_of_lt_of_le (HXX.out j (HXB.out j hj)) q5)⟩
            clear hJ4 hk4
            obtain ⟨d0, d1⟩ := BX.out _ _ _ _ R4.out
            have NX := Lib.hid (NXT.out _ _ _ _ R4.out)
            gi_wp2_with fail
            refine ⟨trivial, (fun h => by cases h), ?_⟩
            refine (callsIn_wide.2 NX.out).mono ?_
            rintro e w' ⟨rfl, q, rfl⟩
            have R5 := Lib.hid (R4.out.nx HJ.out HXX.out HB.out (Nx.drewN (Nx.refl W4) q))
            have hlt : xs.length - (i + 1) < m := by have := HM1.out; have := HLT.out; omega
            have hle : i + 1 ≤ flowN mt xs := hN.out
            clear NX d0 d1
            gi_wp2_with fail
            exact ⟨(i + 1, G', s'), _, hlt, rfl, hle, R5.out, u3, _, _, _, _, _, _, _, _, _, _, _, _, _, _, _, _, _, rfl⟩
          · have FIN : Hid (∃ i G, Jx i G W4) := ⟨_, _, hJx4⟩
            clear hJx4
            gi_wp2
            refine bodyPost_ret (results_none rfl _ _ _) rfl ?_
            exact ⟨⟨_, rfl⟩, .inr FIN.out⟩
end Go.Proofs.Ytekcphpeaoaaaaa

/- Package table: the iterator over the nodes from the top down. -/
import Derived.Test.YtekcphpeaoaaaaaTbNext
namespace Go.Proofs.Ytekcphpeaoaaaaa
open Go.RowKit Go.Shelf
set_option linter.unusedVariables false

attribute [local go_sem] Oper.semAt_some

/-- What is to be done: the top ahead. -/
abbrev DStk := List (Value × T)
def drow (q : DStk) : List Value := (q.map (·.1)).reverse
theorem drow_cons (e : Value × T) (q : DStk) : drow (e :: q) = drow q ++ [e.1] := by unfold drow; rw [List.map_cons, List.reverse_cons]
theorem drow_length (q : DStk) : (drow q).length = q.length := by unfold drow; simp
def dflow (q : DStk) : List KV := q.flatMap fun e => e.2.pre
theorem dflow_cons (e : Value × T) (q : DStk) : dflow (e :: q) = e.2.pre ++ dflow q := rfl
def dsum : DStk → Nat
  | [] => 0
  | e :: q => 2 * e.2.size + 1 + dsum q
theorem dsum_len : ∀ q : DStk, q.length ≤ dsum q
  | [] => Nat.le_refl _
  | e :: q => by have := dsum_len q; simp only [List.length_cons, dsum]; omega
def DIn (w : World) (B : Nat) (q : DStk) : Prop := ∀ e ∈ q, In w B e.1 e.2
/-- Between two rounds. -/
structure RunD (W0 w0 : World) (B : Nat) (X : Nat → Prop) (xs : List KV) (J : Nat → (Nat → Prop) → World → Prop) (i : Nat) (G : Nat → Prop) (q : DStk) (v : Value) (W : World) : Prop where
  row : W.ownsRow W0.heap.size 22 1 v q.length (drow q)
  gg : ∀ j, G j ↔ v.ownBlock = some j
  din : DIn w0 B q
  fl : dflow q = xs.drop i
  le : i ≤ xs.length
  j : J i G W
  fix : ∀ j, X j → W.heap[j]? = W0.heap[j]?
  sz : W0.heap.size ≤ W.heap.size
  bel : Below B w0 W
theorem RunD.cel {W0 w0 : World} {B : Nat} {X : Nat → Prop} {xs : List KV} {J : Nat → (Nat → Prop) → World → Prop} {i : Nat} {G : Nat → Prop} {q : DStk} {v : Value} {W : World} (h : RunD W0 w0 B X xs J i G q v W) : ∀ j, G j → Cel W j := fun j hj => by
  obtain ⟨_, cs, hc⟩ := own_row_blk h.row ((h.gg j).1 hj)
  exact hc.cel
/-- The last cell of the row. -/
theorem drow_last {W : World} {B : Nat} {v : Value} {e : Value × T} {q : DStk} (hr : W.ownsRow B 22 1 v (e :: q).length (drow (e :: q))) : ∃ g cap, v = .slice (some ⟨g, 0, none⟩) (q.length + 1) cap ∧ W.cell? ⟨g, q.length, none⟩ = some e.1 ∧ q.length + 1 ≤ cap ∧ cap ≤ maxLen ∧
    W.ownsRow B 22 1 (.slice (some ⟨g, 0, none⟩) q.length cap) q.length (drow q) := by
  have hr0 := hr
  rcases hr.2 with ⟨_, h0⟩ | ⟨g, cap, cur, rfl, hb, hg, hnc, hcm, hcs, htake⟩
  · cases h0
  · have hc := World.ownsRow.cells (w := W) hr0 (g := g) rfl q.length e.1 (by rw [drow_cons, List.getElem?_append_right (by rw [drow_length]; exact Nat.le_refl _), drow_length]; simp)
    rw [add_plain, Nat.zero_add] at hc
    refine ⟨g, cap, rfl, hc, hnc, hcm, ?_⟩
    rw [drow_cons] at hr0
    exact ownsRow_pop (by rw [drow_length]; simp) hr0
theorem cells_two (w : World) (a b : Value) (e : TypeId) : ∀ (j : Nat) (u : Value), [a, b][j]? = some u → (w.alloc (.cells #[a, b] e)).cell? ((⟨w.heap.size, 0, none⟩ : Addr).add j) = some u := fun j u h => by
  rw [add_plain, Nat.zero_add, (BlkIs.new w e #[a, b]).cell]
  simpa using h
def RelD (l bp : Nat) (W0 w0 : World) (B : Nat) (X : Nat → Prop) (xs : List KV) (J : Nat → (Nat → Prop) → World → Prop) (σ : Nat × (Nat → Prop) × DStk × Value) (m : Nat) (a : Act) (W : World) : Prop :=
  m = dsum σ.2.2.1 ∧ dsum σ.2.2.1 ≤ 300000000 ∧ RunD W0 w0 B X xs J σ.1 σ.2.1 σ.2.2.1 σ.2.2.2 W ∧
    ∃ u2 u4 u5 u6 u7 u8 u9 u10 u11 u12 u13 u14 u15 u16 u17 u18 u19 u20 u21 u22 u23 u24 u25 u26 u27 u28 u29 u30 u31 u32 u33 u34 u35 u36 u37, a = { tmps := #[.func (.yield l) #[] #[], .pointer (some ⟨bp, 0, none⟩), u2, σ.2.2.2, u4, u5, u6, u7, u8, u9, u10, u11, u12, u13, u14, u15, u16, u17, u18, u19, u20, u21, u22, u23, u24, u25, u26, u27, u28, u29, u30, u31, u32, u33, u34, u35, u36, u37], defers := [] }

set_option maxRecDepth 100000 in
set_option maxHeartbeats 1000000 in
theorem down1_seq (W0 w0 : World) (B bp : Nat) (X : Nat → Prop) (u : Option Addr) (t : T) (n : Nat)
    (hX : ∀ j, X j → j < W0.heap.size) (hXB : ∀ j, j < B → X j) (hbp : X bp) (cp : BlkIs W0 bp 22 #[.pointer u])
    (hin : In w0 B (.pointer u) t) (hbel : Below B w0 W0) (hB : B ≤ W0.heap.size) (hx : t.size ≤ 100000000) :
    SeqX Fence.wide n Try.prog 65 #[.pointer (some ⟨bp, 0, none⟩)] (fun b : Nat => #[ptrV b]) (OkX w0 B t.pre) X t.pre.length (fun _ _ => True) (fun _ => False) W0 := by
  intro l J Jx W hW hJ hJx hY h0
  obtain ⟨xs, hxs⟩ : ∃ xs, t.pre = xs := ⟨_, rfl⟩
  rw [hxs] at hY ⊢
  have c1 : W.cell? ⟨bp, 0, none⟩ = some (.pointer u) := by rw [(cp.nx hW).cell]; rfl
  have R0 : Hid (RunD W0 w0 B X xs J 0 (fun j => j = W.heap.size) [(.pointer u, t)] (.slice (some ⟨W.heap.size, 0, none⟩) 1 1) (W.alloc (.cells #[.pointer u] 22))) := by
    have nb := BlkIs.new W 22 #[.pointer u]
    have na := (Nx.refl W).alloc (.cells #[.pointer u] 22)
    refine ⟨⟨rfl, .inr ⟨W.heap.size, 1, #[.pointer u], rfl, hW.size, nb, Nat.le_refl _, by unfold maxLen; omega, rfl, rfl⟩⟩, fun j => by simp [Value.ownBlock, eq_comm], fun e he => by rw [List.mem_singleton.1 he]; exact hin, by rw [← hxs]; simp [dflow], Nat.zero_le _, hJ _ _ _ _ _ h0 ⟨na.chd, fun _ h => h.elim, fun j hj => ⟨.inr (by omega), by rw [hj]; exact nb.cel⟩⟩, fun j hj => ((hW.trans na).block j (hX j hj)), Nat.le_trans hW.size na.size, hbel.trans (Below.mono (hW.trans na) hB)⟩
  have S0 : Hid (dsum [(.pointer u, t)] ≤ 300000000) := by show 2 * t.size + 1 + 0 ≤ _; omega
  have HJ := Lib.hid hJ
  have HY := Lib.hid hY
  have HXX := Lib.hid hX
  have HXB := Lib.hid hXB
  have HB := Lib.hid hB
  clear hX hXB hbp cp hin hbel hB hx hJ hJx hY h0
  refine callsIn_of_wp Try.func65 rfl trivial ?_ rfl
  simp only [Try.ntmps65, List.size_toArray, List.length_cons, List.length_nil, Nat.reduceAdd, Nat.reduceSub, Array.replicate_succ, Array.replicate_zero, List.push_toArray, List.append_toArray, List.nil_append, List.cons_append]
  gi_wp2_with fail
  refine wpIn_loop_hnd (RelD l bp W0 w0 B X xs J) (0, (fun j => j = W.heap.size), [(.pointer u, t)], .slice (some ⟨W.heap.size, 0, none⟩) 1 1) (dsum [(.pointer u, t)]) (by refine ⟨rfl, S0.out, R0.out, ?_⟩; exact ⟨_, _, _, _, _, _, _, _, _, _, _, _, _, _, _, _, _, _, _, _, _, _, _, _, _, _, _, _, _, _, _, _, _, _, _, rfl⟩) ?_
  clear R0 S0 hW c1 W
  rintro ⟨i, G, q, v⟩ m a W ⟨hm, h300, hrun, u2, u4, u5, u6, u7, u8, u9, u10, u11, u12, u13, u14, u15, u16, u17, u18, u19, u20, u21, u22, u23, u24, u25, u26, u27, u28, u29, u30, u31, u32, u33, u34, u35, u36, u37, rfl⟩
  simp only at hm h300 hrun
  have RUN := Lib.hid hrun
  cases q with
  | nil =>
    have hv : ∃ A c, v = .slice A 0 c := by
      rcases hrun.row.2 with ⟨hv, _⟩ | ⟨g, cap, cur, hv, _⟩
      · exact ⟨_, _, hv⟩
      · exact ⟨_, _, hv⟩
    obtain ⟨A, c, rfl⟩ := hv
    have FIN : Hid (∃ G, J xs.length G W ∧ True) := by
      have h1 := hrun.fl
      have h2 : xs.length ≤ i := List.drop_eq_nil_iff.1 h1.symm
      have h3 := hrun.le
      obtain rfl : i = xs.length := by omega
      exact ⟨G, hrun.j, trivial⟩
    clear hrun
    gi_wp2_with fail
    go_end0
    exact ⟨⟨_, rfl⟩, .inl FIN.out⟩
  | cons e q =>
    obtain ⟨v0, t0⟩ := e
    obtain ⟨g, cap, rfl, hc, h1, h2, hpop⟩ := drow_last hrun.row
    have hin0 := hrun.din _ List.mem_cons_self
    have hl := dsum_len q
    have hds : dsum ((v0, t0) :: q) = 2 * t0.size + 1 + dsum q := rfl
    unfold maxLen at h2
    have hgt : decide ((0 : Int) < ((q.length + 1 : Nat) : Int)) = true := by simp
    have hw : IntKind.i64.wrap (((q.length + 1 : Nat) : Int) - 1) = (q.length : Int) := by rw [IntWalk.i64_in _ (by omega)]; omega
    have hw2 : IntKind.i64.wrap ((q.length : Int) + 1 - 1) = (q.length : Int) := by rw [IntWalk.i64_in _ (by omega)]; omega
    have hgt2 : decide ((0 : Int) < (q.length : Int) + 1) = true := by simp
    have hq0 : (0 : Int) ≤ (q.length : Int) := by omega
    have hq1 : (q.length : Int) < ((q.length + 1 : Nat) : Int) := by omega
    have hq2 : (q.length : Int) ≤ (cap : Int) := by omega
    cases t0 with
    | nil =>
      obtain rfl : v0 = .pointer none := hin0
      have NXT : Hid (dsum q < m ∧ dsum q ≤ 300000000 ∧ RunD W0 w0 B X xs J i G q (.slice (some ⟨g, 0, none⟩) q.length cap) W) := by
        refine ⟨by omega, by omega, hpop, fun j => by rw [hrun.gg]; simp [Value.ownBlock], fun e he => hrun.din e (List.mem_cons_of_mem _ he), hrun.fl, hrun.le, hrun.j, hrun.fix, hrun.sz, hrun.bel⟩
      clear hrun hpop h300 hds hm RUN
      gi_wp2_with fail
      refine ⟨(i, G, q, .slice (some ⟨g, 0, none⟩) q.length cap), _, NXT.out.1, rfl, NXT.out.2.1, NXT.out.2.2, ?_⟩
      exact ⟨_, _, _, _, _, _, _, _, _, _, _, _, _, _, _, _, _, _, _, _, _, _, _, _, _, _, _, _, _, _, _, _, _, _, _, rfl⟩
    | nd lt' k x r =>
      obtain ⟨b, pl, pr, e, hb, hk, hl', hr', k1, k2⟩ := hin0
      simp only at e
      subst e
      obtain ⟨ul, rfl⟩ := hl'.ptr
      obtain ⟨ur, rfl⟩ := hr'.ptr
      have hfl : (k, x) :: (lt'.pre ++ (r.pre ++ dflow q)) = xs.drop i := by rw [← hrun.fl, dflow_cons]; simp [T.pre]
      obtain ⟨f1, f2, f3⟩ := flow_head hfl
      have OK : Hid (OkX w0 B xs i b) := ⟨hb, (T.nd lt' k x r).size, _, _, by rw [f2]; exact hk, by rw [f2]; exact k1, by rw [f2]; exact k2⟩
      obtain ⟨fn, tmps, assign, body, hy, hR⟩ := HY.out i b G W hrun.j f1 OK.out hrun.cel
      have HRR := Lib.hid hR
      have hsz : (T.nd lt' k x r).size = lt'.size + 1 + r.size := rfl
      have NXT : Hid (∀ W4, J (i + 1) G W4 → Kp X G W W4 → NodeAt W4 b k x ((T.nd lt' k x r).size) (.pointer ul) (.pointer ur) ∧ (∀ o, (W4.drew.alloc o).ownsRow W0.heap.size 22 1 (.slice (some ⟨g, 0, none⟩) q.length cap) q.length (drow q)) ∧ W0.heap.size ≤ W4.heap.size ∧
          ∀ (cs : Array Value) V g2 cap2, V.ownsRow W0.heap.size 22 1 (.slice (some ⟨g2, 0, none⟩) (q.length + 2) cap2) (q.length + 2) (drow q ++ [.pointer ur, .pointer ul]) → (W4.drew.alloc (.cells cs 22)).grownBy V (some g) → (g = g2 ∨ g2 = W4.heap.size + 1) →
            NodeAt V b k x ((T.nd lt' k x r).size) (.pointer ul) (.pointer ur) ∧ RunD W0 w0 B X xs J (i + 1) (fun j => j = g2) ((.pointer ul, lt') :: (.pointer ur, r) :: q) (.slice (some ⟨g2, 0, none⟩) (q.length + 2) cap2) V) := fun W4 hJ4 hk4 => by
        have hG : ∀ j, G j ↔ j = g := fun j => by rw [hrun.gg]; simp [Value.ownBlock, eq_comm]
        have hGX : ∀ j, G j → ¬ X j := fun j hj hx => by
          have := HXX.out j hx
          have := (own_row_blk hrun.row ((hrun.gg j).1 hj)).1
          omega
        have hfix : ∀ j, X j → W4.heap[j]? = W0.heap[j]? := fun j hj => (hk4.fix hj (Nat.lt_of_lt_of_le (HXX.out j hj) hrun.sz)).trans (hrun.fix j hj)
        have hbel4 : Below B w0 W4 := hrun.bel.trans ⟨hk4.os, hk4.tape, hk4.output, hk4.size, fun j hj => hk4.fix (HXB.out j hj) (Nat.lt_of_lt_of_le (HXX.out j (HXB.out j hj)) hrun.sz)⟩
        have hsz4 : W0.heap.size ≤ W4.heap.size := Nat.le_trans hrun.sz hk4.size
        have hrow4 : W4.ownsRow W0.heap.size 22 1 (.slice (some ⟨g, 0, none⟩) q.length cap) q.length (drow q) := row_of_blk hpop fun j hj => hk4.own ((hG j).2 (by simpa [Value.ownBlock, eq_comm] using hj)) (hrun.cel j ((hG j).2 (by simpa [Value.ownBlock, eq_comm] using hj)))
        have hb4 : BlkIs W4 b 66 _ := hk.at_ hbel4 hb
        have hgc : Cel W4 g := by
          obtain ⟨_, cs, hc⟩ := own_row_blk hrow4 (j := g) rfl
          exact hc.cel
        have hgB := (own_row_blk hrow4 (j := g) rfl).1
        refine ⟨node_at hb4, fun o => World.ownsRow.alloc (w := W4.drew) (row_of_blk hrow4 fun _ _ => rfl) o, hsz4, fun cs V g2 cap2 hown hgrow hat => ?_⟩
        have C3 : Chd (fun j => j = g) W4 V := (((Nx.refl W4).drew).alloc _).chd.trans ((Chd.of_grown hgrow).mono fun j _ e => by simpa [eq_comm] using e)
        have hbB : b < W0.heap.size := by have := HB.out; omega
        have hm4 : Mv G W4 (fun j => j = g2) V := ⟨C3.mono fun j _ e => (hG j).2 e, fun j hj => by rw [(hG j).1 hj]; exact hgc, fun j hj => by
          obtain ⟨_, cs', hc⟩ := own_row_blk hown (j := g2) rfl
          refine ⟨?_, by rw [hj]; exact hc.cel⟩
          rcases hat with e | e
          · exact .inl ((hG j).2 (by omega))
          · exact .inr (by omega)⟩
        refine ⟨node_at (hb4.chd C3 (by omega)), ⟨?_, fun j => by simp [Value.ownBlock, eq_comm], ?_, ?_, f1, HJ.out _ _ _ _ _ hJ4 hm4, fun j hj => ?_, Nat.le_trans hsz4 C3.size, hbel4.trans (C3.below (Nat.le_trans HB.out hsz4) fun j hj e => by have := HB.out; omega)⟩⟩
        · rw [drow_cons, drow_cons, List.append_assoc]; exact hown
        · intro e he
          rcases List.mem_cons.1 he with rfl | he
          · exact hl'
          · rcases List.mem_cons.1 he with rfl | he
            · exact hr'
            · exact hrun.din e (List.mem_cons_of_mem _ he)
        · rw [dflow_cons, dflow_cons]; exact f3
        · exact (C3.block j (Nat.lt_of_lt_of_le (HXX.out j hj) hsz4) (fun e => hGX g ((hG g).2 rfl) (by rw [← e]; exact hj))).trans (hfix j hj)
      have MS : Hid (dsum ((.pointer ul, lt') :: (.pointer ur, r) :: q) < m ∧ dsum ((.pointer ul, lt') :: (.pointer ur, r) :: q) ≤ 300000000) := by
        have e : dsum ((.pointer ul, lt') :: (.pointer ur, r) :: q) = 2 * lt'.size + 1 + (2 * r.size + 1 + dsum q) := rfl
        refine ⟨?_, ?_⟩ <;> omega
      have hlen : q.length + 2 ≤ 400000000 := by omega
      have HLN := Lib.hid hlen
      clear hrun hpop h300 hds hm RUN hR hfl f1 f2 f3 hk hl' hr' k1 k2 OK hl h1 h2 hsz hb
      unfold ptrV at *
      gi_wp2_with fail
      refine ⟨(fun h => by cases h), ?_⟩
      refine HRR.out.mono ?_
      clear HRR hy hc
      rintro e W4 (⟨rfl, hJ4, hk4⟩ | ⟨rfl, hJx4⟩)
      · obtain ⟨nd4, HO, hbase, PUSH⟩ := NXT.out W4 hJ4 hk4
        obtain ⟨_, _, _, _, c4, c5⟩ := nd4
        have HO := Lib.hid HO
        have PUSH := Lib.hid PUSH
        clear hJ4 hk4 NXT
        gi_wp2_with fail
        refine wpIn_wide.2 ?_
        obtain ⟨i0, hi, hz0, hz1, hz2⟩ := info_parts node_info
        go_region_held3 (fun V => V.cell? ⟨b, 4, none⟩ = some (.pointer ul) ∧ V.cell? ⟨b, 5, none⟩ = some (.pointer ur))
          (first | exact ⟨q4, q5⟩ | go_keep)
          ((refine step_append_lies _ rfl _ _ 84 rfl W0.heap.size 22 i0 (.pointer none) 1 8 Try.underlying84 hi hz0 hz1 hz2 rfl (by decide) (.slice (some ⟨g, 0, none⟩) q.length cap) q.length (drow q) rfl (HO.out _) ⟨W4.heap.size, 0, none⟩ 2 2 [.pointer ur, .pointer ul] rfl rfl (cells_two _ _ _ _) (by simp [Value.oneCell']) (by decide) (by unfold maxLen; omega) (by omega) (by simp; omega) _ rfl ?_; intro g2 cap2 w3 hown2 hgrow hat hlt3; obtain ⟨⟨_, _, _, _, q4, q5⟩, RN⟩ := PUSH.out _ w3 g2 cap2 hown2 hgrow (hat.imp (fun e => by simpa [Value.ownBlock] using e) fun e => by rw [e]; simp); have HRN := Lib.hid RN; clear RN hown2 hgrow hat hlt3))
        refine ⟨(i + 1, (fun j => j = g2), (.pointer ul, lt') :: (.pointer ur, r) :: q, .slice (some ⟨g2, 0, none⟩) (q.length + 2) cap2), _, MS.out.1, rfl, MS.out.2, HRN.out, ?_⟩
        exact ⟨_, _, _, _, _, _, _, _, _, _, _, _, _, _, _, _, _, _, _, _, _, _, _, _, _, _, _, _, _, _, _, _, _, _, _, rfl⟩
      · have FIN : Hid (∃ i G, Jx i G W4) := ⟨_, _, hJx4⟩
        clear hJx4
        gi_wp2
        refine bodyPost_ret (results_none rfl _ _ _) rfl ?_
        exact ⟨⟨_, rfl⟩, .inr FIN.out⟩
theorem downward_any (w : World) (u : Option Addr) :
    Calls Try.prog 53 #[.pointer u] w fun e w' => e = .returned (.func (.func 65) #[] #[.pointer (some ⟨w.heap.size, 0, none⟩)]) ∧ w.alloc (.cells #[.pointer u] 22) = w' := by
  have hmf : ∀ (fn : Fn) (first cap : Array Value) (w : World), (Instr.makeFunc fn first cap).run Try.prog w = .ok (.func fn first cap) w := fun _ _ _ _ => rfl
  go_enter Try.func53, Try.ntmps53
  go_wp2
  go_ret
  exact ⟨rfl, rfl⟩
end Go.Proofs.Ytekcphpeaoaaaaa

/- Package table: Changes. -/
import Derived.Test.YtekcphpeaoaaaaaTbChg
namespace Go.Proofs.Ytekcphpeaoaaaaa
open Go.RowKit Go.Shelf
set_option linter.unusedVariables false

attribute [local go_sem] Oper.semAt_some

/-- What is fixed: all but the list and the two positions. -/
def Xc (W : World) (bl : Nat) (G1 G2 : Nat → Prop) (j : Nat) : Prop := j < W.heap.size ∧ j ≠ bl ∧ ¬ G1 j ∧ ¬ G2 j
def Ic (W4 w : World) (p2 : Nat) (X : Nat → Prop) (xs ys : List KV) (i : Nat) (G : Nat → Prop) (W : World) : Prop :=
  ∃ H G2 l r s2, Lq W4 w w (w.heap.size + 1 + 1) p2 X G H G2 l s2 W ∧ flow s2 = r ∧ l ++ chg (xs.drop i) r = chg xs ys ∧ r.length ≤ 100000000

set_option maxRecDepth 100000 in
set_option maxHeartbeats 4000000 in
theorem tchanges_any (w : World) (T1 T2 : Value) (ps qs : List KV) (h1 : Tb w T1 ps) (h2 : Tb w T2 qs) (hn1 : ps.length ≤ 100000000) (hn2 : qs.length ≤ 100000000) :
    Calls Try.prog 27 #[T1, T2] w (Ret fun r w' => Row w' w.heap.size r (chg ps qs) ∧ Nx w w') := by
  obtain ⟨u, t, rfl, hin, hh, rfl, hs⟩ := h1
  obtain ⟨uo, to, rfl, hino, hho, rfl, hso⟩ := h2
  have ez := T.size_eq t
  have ezo := T.size_eq to
  refine (callsIn_wide (n := 12)).1 ?_
  refine callsIn_of_wp_marks Try.func27 rfl trivial ?_ rfl
  simp only [Try.ntmps27, List.size_toArray, List.length_cons, List.length_nil, Nat.reduceAdd, Nat.reduceSub, Array.replicate_succ, Array.replicate_zero, List.push_toArray, List.append_toArray, List.nil_append, List.cons_append]
  obtain ⟨W1, hW1⟩ : ∃ W1, ((w.alloc (.cells #[.pointer u] 24)).alloc (.cells #[.pointer uo] 24)).alloc (.cells #[.slice none 0 0] 33) = W1 := ⟨_, rfl⟩
  have bx : BlkIs W1 w.heap.size 24 #[.pointer u] ∧ BlkIs W1 (w.heap.size + 1) 24 #[.pointer uo] ∧ LstAt W1 w.heap.size (w.heap.size + 1 + 1) (fun j => j = w.heap.size + 1 + 1) [] ∧ Nx w W1 ∧ W1.heap.size = w.heap.size + 3 := by
    rw [← hW1]
    have a1 := box_blk w (.pointer u) 24
    have a2 := box_blk (w.alloc (.cells #[.pointer u] 24)) (.pointer uo) 24
    have a4 := LstAt.new ((w.alloc (.cells #[.pointer u] 24)).alloc (.cells #[.pointer uo] 24)) w.heap.size (by simp; omega)
    simp only [World.size_alloc] at a2 a4
    exact ⟨(a1.nx (Nx.alloc (Nx.refl _) _)).nx (Nx.alloc (Nx.refl _) _), a2.nx (Nx.alloc (Nx.refl _) _), a4, (((Nx.refl w).alloc _).alloc _).alloc _, by simp⟩
  obtain ⟨b0, b1, b3, n1, z1⟩ := bx
  have c1 : W1.cell? ⟨w.heap.size + 1, 0, none⟩ = some (.pointer uo) := by rw [b1.cell]; rfl
  have same1 : ∀ j, j < w.heap.size → w.heap[j]? = W1.heap[j]? := fun j hj => (n1.block j hj).symm
  have BEF2 := Lib.hid (before_any W1 w.heap.size (.pointer uo) to [] (In.below hino n1) hso n1.size (by omega))
  have N1 := Lib.hid n1
  have Z1 := Lib.hid z1
  have B0 := Lib.hid b0
  have B3 := Lib.hid b3
  have SAME1 := Lib.hid same1
  have HIN := Lib.hid hin
  have HS := Lib.hid hs
  have HEZ : Hid (t.size ≤ 100000000 ∧ t.pairs.length ≤ 100000000 ∧ to.pairs.length ≤ 100000000) := ⟨by omega, hn1, hn2⟩
  clear b0 b1 b3 n1 z1 same1 hin hs hh hino hho hso ez ezo hn1 hn2
  gi_wp2_with fail
  refine ⟨trivial, ?_⟩
  refine (callsIn_wide.2 BEF2.out).mono ?_
  rintro e W2 ⟨p, rfl, p2, G2, s2, rfl, hp2, hn2, hg2, hs2, hf2, hl2⟩
  rw [place_zero] at hf2
  clear hW1 c1 BEF2
  -- the other position, in its box
  obtain ⟨Wb, hWb⟩ : ∃ Wb, (W2.alloc (.cells #[.pointer none] 74)).setCell ⟨W2.heap.size, 0, none⟩ (ptrV p2) = Wb := ⟨_, rfl⟩
  have nb : Nx W2 Wb := by rw [← hWb]; exact ((Nx.refl W2).alloc _).set _ 0 _ (Nat.le_refl _)
  have bb : BlkIs Wb W2.heap.size 74 #[ptrV p2] := by rw [← hWb]; exact (BlkIs.new W2 _ _).set 0 _
  have zb : Wb.heap.size = W2.heap.size + 1 := by rw [← hWb]; simp
  have cb0 : (W2.alloc (.cells #[.pointer none] 74)).cell? ⟨W2.heap.size, 0, none⟩ = some (.pointer none) := by rw [(BlkIs.new W2 74 #[.pointer none]).cell]; rfl
  have n1b : Nx w Wb := (N1.out.trans hn2).trans nb
  have c0 : Wb.cell? ⟨w.heap.size, 0, none⟩ = some (.pointer u) := by rw [((B0.out.nx hn2).nx nb).cell]; rfl
  have BEF1 := Lib.hid (before_any Wb w.heap.size (.pointer u) t [] (In.below HIN.out n1b) HS.out n1b.size HEZ.out.1)
  have NB := Lib.hid nb
  have BB := Lib.hid bb
  have ZB := Lib.hid zb
  have N1B := Lib.hid n1b
  have HP2 := Lib.hid hp2
  have HN2 := Lib.hid hn2
  have HG2 := Lib.hid hg2
  have HS2 : Hid (StkIn w w.heap.size s2) := hs2.same SAME1.out
  have HF2 := Lib.hid hf2
  clear nb bb zb n1b hp2 hn2 hg2 hs2 hf2 hl2
  unfold ptrV at hWb ⊢
  gi_wp2_with fail
  refine ⟨trivial, ?_⟩
  refine (callsIn_wide.2 BEF1.out).mono ?_
  rintro e W3 ⟨p, rfl, p1, G1, s1, rfl, hp1, hn3, hg1, hs1, hf1, hl1⟩
  rw [place_zero] at hf1
  clear hWb c0 cb0 BEF1
  have ASC := (ascending_any W3 p1).mono (R' := fun e w' => e = .returned (.func (.func 66) #[] #[.pointer (some ⟨W3.heap.size, 0, none⟩), .pointer (some ⟨W3.heap.size + 1, 0, none⟩)]) ∧ (W3.alloc (.cells #[ptrV p1] 74)).alloc (.cells #[.func (.func 61) #[] #[]] 82) = w') (fun _ _ h => ⟨h.1, h.2.symm⟩)
  obtain ⟨W4, hW4⟩ : ∃ W4, (W3.alloc (.cells #[ptrV p1] 74)).alloc (.cells #[.func (.func 61) #[] #[]] 82) = W4 := ⟨_, rfl⟩
  rw [hW4] at ASC
  have ASC := Lib.hid ASC
  have n4 : Nx W3 W4 := by rw [← hW4]; exact ((Nx.refl _).alloc _).alloc _
  have cp : BlkIs W4 W3.heap.size 74 #[ptrV p1] := by rw [← hW4]; exact (box_blk W3 _ _).nx ((Nx.refl _).alloc _)
  have cm : BlkIs W4 (W3.heap.size + 1) 82 #[.func (.func 61) #[] #[]] := by
    rw [← hW4]
    have := box_blk (W3.alloc (.cells #[ptrV p1] 74)) (.func (.func 61) #[] #[]) 82
    rwa [World.size_alloc] at this
  have z4 : W4.heap.size = W3.heap.size + 2 := by rw [← hW4]; simp
  obtain ⟨X, hXdef⟩ : ∃ X, X = Xc W4 (w.heap.size + 1 + 1) G1 G2 := ⟨_, rfl⟩
  have Xmk : ∀ j, j < W4.heap.size → j ≠ w.heap.size + 1 + 1 → ¬ G1 j → ¬ G2 j → X j := fun j a b c d => by rw [hXdef]; exact ⟨a, b, c, d⟩
  have Xlt : ∀ j, X j → j < W4.heap.size := fun j h => by rw [hXdef] at h; exact h.1
  have XL : ∀ j, X j → j ≠ w.heap.size + 1 + 1 := fun j h => by rw [hXdef] at h; exact h.2.1
  have X1 : ∀ j, G1 j → ¬ X j := fun j hj h => by rw [hXdef] at h; exact h.2.2.1 hj
  have X2 : ∀ j, G2 j → ¬ X j := fun j hj h => by rw [hXdef] at h; exact h.2.2.2 hj
  have z1 := Z1.out
  have s12 := HN2.out.size
  have zb := ZB.out
  have s3 := hn3.size
  have g2lt : ∀ j, G2 j → j < W2.heap.size := fun j hj => (HP2.out.cel j hj).lt
  have g1lt : ∀ j, G1 j → j < W3.heap.size := fun j hj => (hp1.cel j hj).lt
  have g2ge := HG2.out
  have xlow : ∀ j, j < w.heap.size + 2 → X j := fun j hj => Xmk j (by omega) (by omega) (fun e => by have := hg1 j e; omega) (fun e => by have := g2ge j e; omega)
  have xbox : X W2.heap.size := Xmk _ (by omega) (by omega) (fun e => by have := hg1 _ e; omega) (fun e => by have := g2lt _ e; omega)
  have xcp : X W3.heap.size := Xmk _ (by omega) (by omega) (fun e => by have := g1lt _ e; omega) (fun e => by have := g2lt _ e; omega)
  have xcm : X (W3.heap.size + 1) := Xmk _ (by omega) (by omega) (fun e => by have := g1lt _ e; omega) (fun e => by have := g2lt _ e; omega)
  have nw4 : Nx w W4 := (N1B.out.trans hn3).trans n4
  have P1 := hp1.nx n4
  have P2 := ((HP2.out.nx NB.out).nx hn3).nx n4
  have HS1 : StkIn w w.heap.size s1 := hs1.same fun j hj => (N1B.out.block j hj).symm
  have SEQ := while1_seq W4 w w.heap.size p1 W3.heap.size (W3.heap.size + 1) X G1 s1 t.pairs (fun _ => true) _ _ (.inl ⟨rfl, rfl⟩) 11 Xlt (fun j hj => xlow j (by omega)) xcp xcm cp cm (asc_meant _ _) P1 HS1 hf1 X1 nw4 (by omega) HEZ.out.2.1
  have L0 : Ic W4 w p2 X t.pairs to.pairs 0 G1 W4 :=
    ⟨_, G2, [], _, s2, ⟨((B3.out.nx HN2.out).nx NB.out |>.nx hn3).nx n4, P2, HS2.out, fun j hj e => by have := hg1 j hj; omega, fun j hj e => by have := hg1 j hj; have := g2lt j e; omega, fun j hj e => by have := g2ge j hj; omega, fun j hj h => XL j h hj, X2, X1, fun j hj => by have := hg1 j hj; omega, nw4, fun _ _ => rfl, Nat.le_refl _⟩, HF2.out, rfl, HEZ.out.2.2⟩
  have FL := flowN_all t.pairs
  have BXS : Hid (∀ W : World, (∀ j, X j → W.heap[j]? = W4.heap[j]?) → W.cell? ⟨W2.heap.size, 0, none⟩ = some (.pointer (some ⟨p2, 0, none⟩))) := fun W h => by
    have b : BlkIs W W2.heap.size 74 #[ptrV p2] := (h _ xbox).trans ((BB.out.nx hn3).nx n4)
    rw [b.cell]; rfl
  have HSEQ := Lib.hid SEQ
  have HL0 := Lib.hid L0
  have HFL := Lib.hid FL
  have HXL := Lib.hid Xlt
  have XLOW := Lib.hid xlow
  have HW4 : Hid (w.heap.size + 3 ≤ W4.heap.size) := by show _ ≤ _; omega
  have HDB : Hid (∀ G' A C, DnX w w.heap.size p1 t.pairs (flowN (fun _ => true) t.pairs) G' A → Bk W4.heap.size A C → DnX w w.heap.size p1 t.pairs (flowN (fun _ => true) t.pairs) G' C) := fun G' A C ⟨s', a1, a2, a3, a4⟩ hk =>
    ⟨s', a1.bk hk, a2, a3, a4.trans (hk.below (by omega) (by have := a4.size; omega))⟩
  clear SEQ L0 FL Xlt XL X1 X2 Xmk hXdef xlow xbox xcp xcm nw4 P1 P2 HS1 cp cm hW4 n4 z4 z1 s12 zb s3 g2lt g1lt g2ge hp1 hn3 hg1 hs1 hf1 hl1 Z1 HN2 ZB HP2 HG2 HS2 HF2 NB BB N1B B0 B3 HIN HS SAME1 N1
  gi_wp2_with fail
  refine ⟨trivial, ?_⟩
  refine (callsIn_wide.2 ASC.out).mono ?_
  rintro e w' ⟨rfl, rfl⟩
  clear ASC
  unfold ptrV
  gi_wp2_with fail
  refine range_x rfl (by decide) (gf := 66) (lb := #[.pointer (some ⟨W3.heap.size, 0, none⟩), .pointer (some ⟨W3.heap.size + 1, 0, none⟩)]) rfl trivial (enters_of Try.func66 (by kernel_rfl) rfl) HSEQ.out (fun _ => rfl) HXL.out
    (Ic W4 w p2 X t.pairs to.pairs) (fun c i G' W => False)
    (fun i G' A G'' C ⟨H, G2, l, r, s2, h1, h2⟩ hm => ⟨H, G2, l, r, s2, h1.mv HXL.out hm, h2⟩) (fun c i G' A G'' C h hm => h)
    (fun i G' A C ⟨H, G2, l, r, s2, h1, h2⟩ hb => ⟨H, G2, l, r, s2, h1.bk HXL.out (Nat.le_refl _) (by have := HW4.out; omega) hb, h2⟩) (fun c i G' A C h hb => h) HDB.out
    HL0.out
    (fun b => { tmps := #[.agg #[.pointer u], .agg #[.pointer uo], .pointer (some ⟨w.heap.size, 0, none⟩), .pointer (some ⟨w.heap.size + 1, 0, none⟩), .slice none 0 0, .pointer (some ⟨w.heap.size + 1 + 1, 0, none⟩), .pointer (some ⟨W2.heap.size, 0, none⟩), .pointer (some ⟨b, 0, none⟩), undef, undef, undef, .pointer (some ⟨w.heap.size + 1, 0, none⟩), .pointer uo, .pointer (some ⟨p2, 0, none⟩), .pointer (some ⟨w.heap.size, 0, none⟩), .pointer u, .pointer (some ⟨p1, 0, none⟩), .func (.func 66) #[] #[.pointer (some ⟨W3.heap.size, 0, none⟩), .pointer (some ⟨W3.heap.size + 1, 0, none⟩)], .pointer (some ⟨b, 0, none⟩), undef, undef, undef, undef, undef, undef, undef, undef, undef, undef, undef, undef, undef, undef, undef, undef, undef, undef, undef, undef, undef, undef, undef, undef, undef, undef, undef, undef, undef, undef, undef, undef, undef, undef, undef, undef, undef, undef, undef, undef, undef, undef, undef, undef, undef, undef, undef, undef, undef, undef], defers := [] }) ?assign ?body ?done ?stop
  case assign =>
    intro l x W K hK
    gi_wp2
    exact hK
  case body =>
    rintro l i b G' W hl0 ⟨rr, hrr⟩ ⟨H, G2', ls, r, s2', hq, hfl, hch, hrl⟩ hcel hlt ⟨hb, nn, pl, pr, hk, k1, k2⟩
    have hil : i < t.pairs.length := by have := HFL.out; omega
    obtain ⟨x, hx⟩ : ∃ x, kvAt t.pairs i = x := ⟨_, rfl⟩
    rw [hx] at hk k1 k2
    have hkb := hk.at_ hq.nx hb
    have hdrop : t.pairs.drop i = x :: t.pairs.drop (i + 1) := by rw [List.drop_eq_getElem_cons hil, ← kvAt_get hil, hx]
    have t6 := BXS.out W hq.fix
    have t7 := (node_at hkb).c0
    obtain ⟨W5, hW5⟩ : ∃ W5, ((W.drew.alloc (.cells #[.string (S x.1)] 9)).alloc (.cells #[ptrV p2] 74)).alloc (.cells #[.func (.func 62) #[] #[.pointer (some ⟨W.heap.size, 0, none⟩)]] 82) = W5 := ⟨_, rfl⟩
    have BL : Hid (Calls Try.prog 50 #[.pointer (some ⟨p2, 0, none⟩), .string (S x.1)] W.drew fun e w' => e = .returned (.func (.func 66) #[] #[.pointer (some ⟨W.heap.size + 1, 0, none⟩), .pointer (some ⟨W.heap.size + 1 + 1, 0, none⟩)]) ∧ W5 = w') :=
      (below_any W.drew p2 x.1).mono (fun _ _ h => ⟨h.1, by rw [← hW5]; exact h.2.symm⟩)
    have n5 : Nx W W5 := by rw [← hW5]; exact ((((Nx.refl W).drew).alloc _).alloc _).alloc _
    have z5 : W5.heap.size = W.heap.size + 3 := by rw [← hW5]; simp
    have q5 : BlkIs W5 W.heap.size 9 #[.string (S x.1)] ∧ BlkIs W5 (W.heap.size + 1) 74 #[ptrV p2] ∧ BlkIs W5 (W.heap.size + 1 + 1) 82 #[.func (.func 62) #[] #[.pointer (some ⟨W.heap.size, 0, none⟩)]] := by
      rw [← hW5]
      have a1 := box_blk W.drew (.string (S x.1)) 9
      have a2 := box_blk (W.drew.alloc (.cells #[.string (S x.1)] 9)) (ptrV p2) 74
      have a3 := box_blk ((W.drew.alloc (.cells #[.string (S x.1)] 9)).alloc (.cells #[ptrV p2] 74)) (.func (.func 62) #[] #[.pointer (some ⟨W.heap.size, 0, none⟩)]) 82
      simp only [World.size_alloc] at a2 a3
      exact ⟨(a1.nx (Nx.alloc (Nx.refl _) _)).nx (Nx.alloc (Nx.refl _) _), a2.nx (Nx.alloc (Nx.refl _) _), a3⟩
    obtain ⟨q51, q52, q53⟩ := q5
    obtain ⟨hq5, hk5⟩ := hq.next HXL.out hcel n5
    have hcel5 : ∀ j, G' j → Cel W5 j := fun j hj => (hcel j hj).of_eq (n5.block j (hcel j hj).lt)
    have xin : ∀ j, j < w.heap.size → Xin W5 H G2' j := fun j hj => ⟨by have := hq5.sz; have := HW4.out; omega, fun e => by have := hq5.lst.ge j e; omega, fun e => by have := hq5.pos.ge j e; omega⟩
    have xnew : ∀ j, W.heap.size ≤ j → j < W5.heap.size → Xin W5 H G2' j := fun j h1 h2 => ⟨h2, fun e => by have := (hq.lst.cel j e).lt; omega, fun e => by have := (hq.pos.cel j e).lt; omega⟩
    have SEQ := while1_seq W5 w w.heap.size p2 (W.heap.size + 1) (W.heap.size + 1 + 1) (Xin W5 H G2') G2' s2' r (fun k => lt k x.1) _ _ (.inr ⟨rfl, _, rfl⟩) 9 (fun j hj => hj.1) xin (xnew _ (by omega) (by omega)) (xnew _ (by omega) (by omega)) q52 q53
      (below_meant _ _ _ _ (xnew _ (by omega) (by omega)) q51) hq5.pos hq5.stk hfl (fun j hj hxj => hxj.2.2 hj) hq5.nx (by have := hq5.nx.size; omega) hrl
    have L5 := hq5.inner0 (by have := HW4.out; omega)
    have hmx : Try.prog.follows .mixedOrders = true := by kernel_rfl
    have HHQ := Lib.hid hq
    have HHQ5 := Lib.hid hq5
    have HK5 := Lib.hid hk5
    have HCEL := Lib.hid hcel
    have HCEL5 := Lib.hid hcel5
    have HSQ5 := Lib.hid SEQ
    have HL5 := Lib.hid L5
    have HKB := Lib.hid hkb
    have HKW := Lib.hid hk
    have HCH := Lib.hid hch
    have HN5 := Lib.hid n5
    have HZ5 := Lib.hid z5
    have HDR := Lib.hid hdrop
    have HR5 : Hid (W5.heap[l]? = some (.loop rr)) := (n5.block l (Array.getElem?_eq_some_iff.1 hrr).1).trans hrr
    clear hq hq5 hk5 hcel hcel5 SEQ L5 hkb hk hch n5 z5 q51 q52 q53 xin xnew hdrop hrr hW5
    gi_wp2_with fail
    refine Code.wpIn_mono (Q := fun e a' W' => e = .normal ∧ a' = { tmps := #[.agg #[.pointer u], .agg #[.pointer uo], .pointer (some ⟨w.heap.size, 0, none⟩), .pointer (some ⟨w.heap.size + 1, 0, none⟩), .slice none 0 0, .pointer (some ⟨w.heap.size + 1 + 1, 0, none⟩), .pointer (some ⟨W2.heap.size, 0, none⟩), .pointer (some ⟨b, 0, none⟩), undef, undef, undef, .pointer (some ⟨w.heap.size + 1, 0, none⟩), .pointer uo, .pointer (some ⟨p2, 0, none⟩), .pointer (some ⟨w.heap.size, 0, none⟩), .pointer u, .pointer (some ⟨p1, 0, none⟩), .func (.func 66) #[] #[.pointer (some ⟨W3.heap.size, 0, none⟩), .pointer (some ⟨W3.heap.size + 1, 0, none⟩)], .pointer (some ⟨b, 0, none⟩), .pointer (some ⟨p2, 0, none⟩), .pointer (some ⟨b, 0, none⟩), .pointer (some ⟨b, 0, none⟩), .pointer (some ⟨b, 0, none⟩), .string (S x.1), .func (.func 66) #[] #[.pointer (some ⟨W.heap.size + 1, 0, none⟩), .pointer (some ⟨W.heap.size + 1 + 1, 0, none⟩)], undef, undef, undef, undef, undef, undef, undef, undef, undef, undef, undef, undef, undef, undef, undef, undef, undef, undef, undef, undef, undef, undef, undef, undef, undef, undef, undef, undef, undef, undef, undef, undef, undef, undef, undef, undef, undef, undef, undef, undef, undef, undef, undef, undef], defers := [] } ∧ W5 = W') ?_ ?_
    rotate_left
    · gi_region_with_o (refine ⟨trivial, ?_⟩; refine (CallsIn.inRound l (callsIn_wide.2 BL.out)).mono ?_; rintro e w' ⟨rfl, rfl⟩)
      all_goals exact ⟨rfl, rfl, rfl⟩
    rintro e a' W' ⟨rfl, rfl, rfl⟩
    clear t6 t7 BL
    have hw5 : Hid (w.heap.size ≤ W5.heap.size) := HHQ5.out.nx.size
    have HLS : Hid (ls.length ≤ 200000000) := by
      have e := congrArg List.length HCH.out
      rw [List.length_append] at e
      have := chg_len t.pairs to.pairs
      have := HEZ.out
      show _ ≤ _
      omega
    have ICN : Hid (∀ V' H'' G4 l4 s4, Lq W4 w w (w.heap.size + 1 + 1) p2 X G' H'' G4 l4 s4 V' → l4 = (ls ++ (r.take (belowN x.1 r)).map prOf) ++ (atKey x (r.drop (belowN x.1 r))).1 → flow s4 = (atKey x (r.drop (belowN x.1 r))).2 → Ic W4 w p2 X t.pairs to.pairs (i + 1) G' V') := fun V' H'' G4 l4 s4 h1 h2 h3 => by
      refine ⟨H'', G4, l4, _, s4, h1, h3, ?_, ?_⟩
      · rw [← HCH.out, HDR.out, chg_cons, h2]; simp only [List.append_assoc]
      · have e1 := atKey_len x (r.drop (belowN x.1 r))
        have e2 : 1 ≤ (atKey x (r.drop (belowN x.1 r))).1.length ∨ (atKey x (r.drop (belowN x.1 r))).2.length ≤ (r.drop (belowN x.1 r)).length := by
          unfold atKey
          cases r.drop (belowN x.1 r) with
          | nil => simp
          | cons y r' =>
            simp only
            split
            · right; simp
            · left; simp
        rw [List.length_drop] at e1 e2
        omega
    gi_wp2_with fail
    refine range_in rfl HR5.out (by decide) (gf := 66) (lb := #[.pointer (some ⟨W.heap.size + 1, 0, none⟩), .pointer (some ⟨W.heap.size + 1 + 1, 0, none⟩)]) rfl trivial (enters_of Try.func66 (by kernel_rfl) rfl) (SeqX.inRound l HSQ5.out) (fun _ => rfl) (fun j hj => hj.1)
      (fun j G3 V => Lp W5 w (w.heap.size + 1 + 1) (Xin W5 H G2') G3 (ls ++ (r.take j).map prOf) V ∧ KeepsFrom W4.heap.size W5 V) (fun c j G3 V => False)
      (fun j G3 A G4 C h hm => ⟨h.1.mv (fun j hj => hj.1) hw5.out hm, h.2.trans (hm.from _)⟩) (fun c j G3 A G4 C h hm => h)
      (fun j G3 A C h hbk => ⟨h.1.bk (fun j hj => hj.1) (Nat.le_refl _) hw5.out hbk, KeepsFrom.bk h.2 hbk (Nat.le_refl _)⟩) (fun _ _ _ _ _ h _ => h)
      (fun G3 A C ⟨s', a1, a2, a3, a4⟩ hk => ⟨s', a1.bk hk, a2, a3, a4.trans (hk.below hw5.out (by have := a4.size; omega))⟩)
      ⟨by simpa using HL5.out, KeepsFrom.refl _ _⟩
      (fun b2 => { tmps := #[.agg #[.pointer u], .agg #[.pointer uo], .pointer (some ⟨w.heap.size, 0, none⟩), .pointer (some ⟨w.heap.size + 1, 0, none⟩), .slice none 0 0, .pointer (some ⟨w.heap.size + 1 + 1, 0, none⟩), .pointer (some ⟨W2.heap.size, 0, none⟩), .pointer (some ⟨b, 0, none⟩), ptrV b2, undef, undef, .pointer (some ⟨w.heap.size + 1, 0, none⟩), .pointer uo, .pointer (some ⟨p2, 0, none⟩), .pointer (some ⟨w.heap.size, 0, none⟩), .pointer u, .pointer (some ⟨p1, 0, none⟩), .func (.func 66) #[] #[.pointer (some ⟨W3.heap.size, 0, none⟩), .pointer (some ⟨W3.heap.size + 1, 0, none⟩)], .pointer (some ⟨b, 0, none⟩), .pointer (some ⟨p2, 0, none⟩), .pointer (some ⟨b, 0, none⟩), .pointer (some ⟨b, 0, none⟩), .pointer (some ⟨b, 0, none⟩), .string (S x.1), .func (.func 66) #[] #[.pointer (some ⟨W.heap.size + 1, 0, none⟩), .pointer (some ⟨W.heap.size + 1 + 1, 0, none⟩)], ptrV b2, undef, undef, undef, undef, undef, undef, undef, undef, undef, undef, undef, undef, undef, undef, undef, undef, undef, undef, undef, undef, undef, undef, undef, undef, undef, undef, undef, undef, undef, undef, undef, undef, undef, undef, undef, undef, undef, undef, undef, undef, undef, undef, undef], defers := [] }) ?assign2 ?body2 ?done2 ?stop2
    case assign2 =>
      intro l2 x2 V K hK
      gi_wp2
      exact hK
    case body2 =>
      rintro l2 j b2 G3 V hl2 hr2 ⟨hL, hkf⟩ hcel3 hlt2 ⟨hb2, nn2, pl2, pr2, hk2, m1, m2⟩
      have hjr : j < r.length := Nat.lt_of_lt_of_le hlt2 (flowN_le _ _)
      obtain ⟨H3, hla, hap, hhx⟩ := hL.ex
      have HKB2 : Hid (∀ V', Nx V V' → Calls Try.prog 48 #[ptrV b2] V' fun e V9 => e = .returned (prV (prOf (kvAt r j))) ∧ Nx V' V9) := fun V' hV => pair_of V' b2 _ _ _ _ ((hk2.at_ hL.nx hb2).nx hV) m1 m2
      have HLN : Hid ((ls ++ (r.take j).map prOf).length < 1000000000) := by
        show _ < _
        rw [List.length_append, List.length_map, List.length_take]
        have := HLS.out
        omega
      have HLP := Lib.hid hL
      have HAP := Lib.hid hap
      have HHX := Lib.hid hhx
      have HLA := Lib.hid hla
      have HCL := Lib.hid hcel3
      have HKF := Lib.hid hkf
      clear hL hap hhx hla hcel3 hk2 hb2 hkf
      gi_wp2_with fail
      refine push_round (s := 5) (x := 8) (d := 26) (f := 48) (xv := ptrV b2) (p := prOf (kvAt r j)) (enters_of Try.func48 (by kernel_rfl) rfl) (by decide) (by decide) (Nat.le_of_ble_eq_true rfl) rfl rfl HKB2.out HLA.out HLN.out ?_
      intro u0 u1 u2 u3 u4 W' H' hl' hm'
      obtain ⟨h1, h2⟩ := HLP.out.push (fun j hj => hj.1) HCL.out hw5.out HLA.out HAP.out HHX.out hl' hm'
      rw [List.append_assoc, ← map_snoc r j hjr] at h1
      exact ⟨hm'.from _, h2, h1, HKF.out.trans (hm'.from _)⟩
    case done2 =>
      rintro G3 V ⟨hL, hkf⟩ ⟨s3, hp3, hs3, hf3, hb3⟩
      obtain ⟨⟨H3, hq3⟩, hk3⟩ := HHQ5.out.inner HXL.out HCEL5.out hL hp3 hs3
      have hf3 : flow s3 = r.drop (belowN x.1 r) := hf3
      have hkp3 : Kp X G' W V := HK5.out.trans hk3
      have hkf3 : KeepsFrom W4.heap.size W V := (KeepsFrom.nx HN5.out _).trans hkf
      have hcl3 : ∀ j, G' j → Cel V j := fun j hj => (HCEL.out j hj).of_eq (hkp3.own hj (HCEL.out j hj))
      have hkb3 := HKW.out.at_ hq3.nx hb
      have t6 := BXS.out V hq3.fix
      have t7 := (node_at hkb3).c0
      have hflen : (flow s3).length ≤ 100000000 := by rw [hf3, List.length_drop]; omega
      have hslen := stk_len hs3
      have PASS : Hid (Calls Try.prog 51 #[.pointer (some ⟨p2, 0, none⟩), .string (S x.1)] V.drew fun e V' => e = .returned (passV x.1 s3) ∧ Moved w w.heap.size p2 1000000000 G3 V (passF x.1 s3) V') := by
        refine (pass_any w V.drew w.heap.size p2 1000000000 G3 s3 x.1 (Below.drew hq3.nx) ?_ hs3 (hp3.nx (Nx.drew (Nx.refl V))) ?_ (Nat.le_refl _)).mono fun _ _ h => ⟨h.1, h.2.after (Mv.of_nx (Nx.drew (Nx.refl V)) hp3.cel)⟩
        · exact hq3.nx.size
        · cases s3 with
          | nil => simp
          | cons e s3 =>
            have := (hs3 _ List.mem_cons_self).2.2.2
            simp only [List.head?_cons, Option.map_some, Option.getD_some]
            omega
      have HQ3 := Lib.hid hq3
      have HKP3 := Lib.hid hkp3
      have HKF3 := Lib.hid hkf3
      have HCL3 := Lib.hid hcl3
      have PH := pass_head hs3 x
      rw [hf3] at PH
      have HLN : Hid ((ls ++ (r.take (belowN x.1 r)).map prOf).length < 1000000000) := by
        show _ < _
        rw [List.length_append, List.length_map, List.length_take]
        have := HLS.out
        omega
      have HN3 : flowN (fun k => lt k x.1) r = belowN x.1 r := rfl
      rw [HN3] at HQ3
      clear hL hkf hp3 hb3 hq3 hk3 hkp3 hkf3 hcl3 hkb3 hflen hslen hs3 HN3
      rcases PH with ⟨e1, e2, AK⟩ | ⟨b4, y, r4, n4, pl4, pr4, e1, hb4, hk4, m1, m2, e2, AK⟩
      · rw [e1, e2] at PASS
        gi_wp2_with fail
        refine Code.wpIn_mono (Q := fun e a' V' => e = .normal ∧ a' = { tmps := #[.agg #[.pointer u], .agg #[.pointer uo], .pointer (some ⟨w.heap.size, 0, none⟩), .pointer (some ⟨w.heap.size + 1, 0, none⟩), .slice none 0 0, .pointer (some ⟨w.heap.size + 1 + 1, 0, none⟩), .pointer (some ⟨W2.heap.size, 0, none⟩), .pointer (some ⟨b, 0, none⟩), undef, .pointer none, undef, .pointer (some ⟨w.heap.size + 1, 0, none⟩), .pointer uo, .pointer (some ⟨p2, 0, none⟩), .pointer (some ⟨w.heap.size, 0, none⟩), .pointer u, .pointer (some ⟨p1, 0, none⟩), .func (.func 66) #[] #[.pointer (some ⟨W3.heap.size, 0, none⟩), .pointer (some ⟨W3.heap.size + 1, 0, none⟩)], .pointer (some ⟨b, 0, none⟩), .pointer (some ⟨p2, 0, none⟩), .pointer (some ⟨b, 0, none⟩), .pointer (some ⟨b, 0, none⟩), .pointer (some ⟨b, 0, none⟩), .string (S x.1), .func (.func 66) #[] #[.pointer (some ⟨W.heap.size + 1, 0, none⟩), .pointer (some ⟨W.heap.size + 1 + 1, 0, none⟩)], undef, undef, undef, undef, undef, undef, .pointer (some ⟨p2, 0, none⟩), .pointer (some ⟨b, 0, none⟩), .pointer (some ⟨b, 0, none⟩), .pointer (some ⟨b, 0, none⟩), .string (S x.1), .pointer none, undef, undef, undef, undef, undef, undef, undef, undef, undef, undef, undef, undef, undef, undef, undef, undef, undef, undef, undef, undef, undef, undef, undef, undef, undef, undef, undef, undef, undef, undef, undef, undef], defers := [] } ∧ Moved w w.heap.size p2 1000000000 G3 V (r.drop (belowN x.1 r)) V') ?_ ?_
        rotate_left
        · gi_region_with_o (refine ⟨trivial, ?_⟩; refine (CallsIn.inRound l (callsIn_wide.2 PASS.out)).mono ?_; rintro e w' ⟨rfl, hmv⟩)
          all_goals exact ⟨rfl, rfl, hmv⟩
        rintro e a' V6 ⟨rfl, rfl, hmv⟩
        obtain ⟨G4, s4, hp4, hm4, hs4, hf4, hl4⟩ := hmv
        obtain ⟨hq4, hk4⟩ := HQ3.out.mv2 HXL.out HCL3.out hm4 hp4 hs4
        have HQ4 := Lib.hid hq4
        have HKP6 : Hid (Kp X G' W V6) := HKP3.out.trans hk4
        have HKF6 : Hid (KeepsFrom W4.heap.size W V6) := HKF3.out.trans (hm4.from _)
        have HCL6 : Hid (∀ j, G' j → Cel V6 j) := fun j hj => (HCL3.out j hj).of_eq (hk4.own hj (HCL3.out j hj))
        have GN : Hid (∀ V', Nx V6 V' → Calls Try.prog 52 #[ptrV b] V' fun e V9 => e = .returned (prV (goneOf x)) ∧ Nx V' V9) := fun V' hV => gone_of V' b x _ _ _ ((HKW.out.at_ hq4.nx hb).nx hV) k1
        clear hp4 hm4 hs4 hq4 hk4 t6 t7 PASS
        gi_wp2_with fail
        refine push_round (s := 5) (x := 7) (d := 40) (f := 52) (xv := ptrV b) (p := goneOf x) (enters_of Try.func52 (by kernel_rfl) rfl) (by decide) (by decide) (Nat.le_of_ble_eq_true rfl) rfl rfl GN.out HQ4.out.lst HLN.out ?_
        intro u0 u1 u2 u3 u4 V' H8 hl' hm'
        obtain ⟨h1, h2⟩ := HQ4.out.push HXL.out HCL6.out hm' hl'
        exact ⟨(HKF6.out.trans (hm'.from _)), HKP6.out.trans h2, ICN.out _ _ _ _ _ h1 (by rw [AK]) (by rw [AK]; exact hf4)⟩
      · rw [e1, e2] at PASS
        unfold ptrV at PASS
        gi_wp2_with fail
        refine Code.wpIn_mono (Q := fun e a' V' => e = .normal ∧ a' = { tmps := #[.agg #[.pointer u], .agg #[.pointer uo], .pointer (some ⟨w.heap.size, 0, none⟩), .pointer (some ⟨w.heap.size + 1, 0, none⟩), .slice none 0 0, .pointer (some ⟨w.heap.size + 1 + 1, 0, none⟩), .pointer (some ⟨W2.heap.size, 0, none⟩), .pointer (some ⟨b, 0, none⟩), undef, .pointer (some ⟨b4, 0, none⟩), undef, .pointer (some ⟨w.heap.size + 1, 0, none⟩), .pointer uo, .pointer (some ⟨p2, 0, none⟩), .pointer (some ⟨w.heap.size, 0, none⟩), .pointer u, .pointer (some ⟨p1, 0, none⟩), .func (.func 66) #[] #[.pointer (some ⟨W3.heap.size, 0, none⟩), .pointer (some ⟨W3.heap.size + 1, 0, none⟩)], .pointer (some ⟨b, 0, none⟩), .pointer (some ⟨p2, 0, none⟩), .pointer (some ⟨b, 0, none⟩), .pointer (some ⟨b, 0, none⟩), .pointer (some ⟨b, 0, none⟩), .string (S x.1), .func (.func 66) #[] #[.pointer (some ⟨W.heap.size + 1, 0, none⟩), .pointer (some ⟨W.heap.size + 1 + 1, 0, none⟩)], undef, undef, undef, undef, undef, undef, .pointer (some ⟨p2, 0, none⟩), .pointer (some ⟨b, 0, none⟩), .pointer (some ⟨b, 0, none⟩), .pointer (some ⟨b, 0, none⟩), .string (S x.1), .pointer (some ⟨b4, 0, none⟩), undef, undef, undef, undef, undef, undef, undef, undef, undef, undef, undef, undef, undef, undef, undef, undef, undef, undef, undef, undef, undef, undef, undef, undef, undef, undef, undef, undef, undef, undef, undef, undef], defers := [] } ∧ Moved w w.heap.size p2 1000000000 G3 V r4 V') ?_ ?_
        rotate_left
        · gi_region_with_o (refine ⟨trivial, ?_⟩; refine (CallsIn.inRound l (callsIn_wide.2 PASS.out)).mono ?_; rintro e w' ⟨rfl, hmv⟩)
          all_goals exact ⟨rfl, rfl, hmv⟩
        rintro e a' V6 ⟨rfl, rfl, hmv⟩
        obtain ⟨G4, s4, hp4, hm4, hs4, hf4, hl4⟩ := hmv
        obtain ⟨hq4, hkq⟩ := HQ3.out.mv2 HXL.out HCL3.out hm4 hp4 hs4
        have HQ4 := Lib.hid hq4
        have HKP6 : Hid (Kp X G' W V6) := HKP3.out.trans hkq
        have HKF6 : Hid (KeepsFrom W4.heap.size W V6) := HKF3.out.trans (hm4.from _)
        have HCL6 : Hid (∀ j, G' j → Cel V6 j) := fun j hj => (HCL3.out j hj).of_eq (hkq.own hj (HCL3.out j hj))
        have hb6 := hk4.at_ hq4.nx hb4
        have hx6 := HKW.out.at_ hq4.nx hb
        have u1 := (node_at hb6).c1
        have u2 := (node_at hx6).c1
        have hse := S_eq y.2 x.2
        clear hp4 hm4 hs4 hq4 hkq t6 t7 PASS
        by_cases hv : y.2 = x.2
        · rw [if_pos hv] at AK
          rw [decide_eq_true hv] at hse
          have FIN : Hid (∀ q, KeepsFrom W4.heap.size W (V6.drewN q) ∧ Kp X G' W (V6.drewN q) ∧ Ic W4 w p2 X t.pairs to.pairs (i + 1) G' (V6.drewN q)) := fun q => by
            obtain ⟨h1, h2⟩ := HQ4.out.next HXL.out HCL6.out (Nx.drewN (Nx.refl V6) q)
            exact ⟨HKF6.out.trans (KeepsFrom.nx (Nx.drewN (Nx.refl V6) q) _), HKP6.out.trans h2, ICN.out _ _ _ _ _ h1 (by rw [AK]; simp) (by rw [AK]; exact hf4)⟩
          clear hb6 hx6
          gi_wp2_with fail
          refine region_quiet (by kernel_rfl) (noDefer_of (by kernel_rfl)) (by kernel_rfl) ?_
          repeat (gi_big_quiet_step (fail))
          refine wpQuietIn_nil ?_
          rintro _ ⟨nq, rfl⟩
          gi_wp2_with fail
          exact FIN.out nq
        · rw [if_neg hv] at AK
          rw [decide_eq_false hv] at hse
          have PR : Hid (∀ q V', Nx (V6.drewN q) V' → Calls Try.prog 48 #[ptrV b4] V' fun e V9 => e = .returned (prV (prOf y)) ∧ Nx V' V9) := fun q V' hV => pair_of V' b4 y _ _ _ (hb6.nx ((Nx.drewN (Nx.refl V6) q).trans hV)) m1 m2
          clear hb6 hx6
          gi_wp2_with fail
          refine region_quiet (by kernel_rfl) (noDefer_of (by kernel_rfl)) (by kernel_rfl) ?_
          repeat (gi_big_quiet_step (fail))
          refine wpQuietIn_nil ?_
          rintro _ ⟨nq, rfl⟩
          have HQ7 := Lib.hid (HQ4.out.next HXL.out HCL6.out (Nx.drewN (Nx.refl V6) nq)).1
          have HKP7 : Hid (Kp X G' W (V6.drewN nq)) := HKP6.out.trans (HQ4.out.next HXL.out HCL6.out (Nx.drewN (Nx.refl V6) nq)).2
          have HKF7 : Hid (KeepsFrom W4.heap.size W (V6.drewN nq)) := HKF6.out.trans (KeepsFrom.nx (Nx.drewN (Nx.refl V6) nq) _)
          have HCL7 : Hid (∀ j, G' j → Cel (V6.drewN nq) j) := fun j hj => (HCL6.out j hj).of_eq rfl
          gi_wp2_with fail
          refine push_round (s := 5) (x := 9) (d := 55) (f := 48) (xv := ptrV b4) (p := prOf y) (enters_of Try.func48 (by kernel_rfl) rfl) (by decide) (by decide) (Nat.le_of_ble_eq_true rfl) rfl rfl (PR.out nq) HQ7.out.lst HLN.out ?_
          intro u0 u1 u2 u3 u4 V' H8 hl' hm'
          obtain ⟨h1, h2⟩ := HQ7.out.push HXL.out HCL7.out hm' hl'
          exact ⟨(HKF7.out.trans (hm'.from _)), HKP7.out.trans h2, ICN.out _ _ _ _ _ h1 (by rw [AK]) (by rw [AK]; exact hf4)⟩
    case stop2 =>
      rintro c j G3 V h
      exact h.elim
  case done =>
    rintro D G' W hD ⟨H, G2', ls, r, s2', hq, hfl, hch, hrl⟩ hdn hK
    have t6 := BXS.out W hq.fix
    rw [HFL.out, List.drop_length] at hch
    have hch : ls ++ r.map prOf = chg t.pairs to.pairs := hch
    have ASC := (ascending_any W p2).mono (R' := fun e w' => e = .returned (.func (.func 66) #[] #[.pointer (some ⟨W.heap.size, 0, none⟩), .pointer (some ⟨W.heap.size + 1, 0, none⟩)]) ∧ (W.alloc (.cells #[ptrV p2] 74)).alloc (.cells #[.func (.func 61) #[] #[]] 82) = w') (fun _ _ h => ⟨h.1, h.2.symm⟩)
    obtain ⟨W5, hW5⟩ : ∃ W5, (W.alloc (.cells #[ptrV p2] 74)).alloc (.cells #[.func (.func 61) #[] #[]] 82) = W5 := ⟨_, rfl⟩
    rw [hW5] at ASC
    have n5 : Nx W W5 := by rw [← hW5]; exact ((Nx.refl _).alloc _).alloc _
    have cp : BlkIs W5 W.heap.size 74 #[ptrV p2] := by rw [← hW5]; exact (box_blk W _ _).nx ((Nx.refl _).alloc _)
    have cm : BlkIs W5 (W.heap.size + 1) 82 #[.func (.func 61) #[] #[]] := by
      rw [← hW5]
      have := box_blk (W.alloc (.cells #[ptrV p2] 74)) (.func (.func 61) #[] #[]) 82
      rwa [World.size_alloc] at this
    have z5 : W5.heap.size = W.heap.size + 2 := by rw [← hW5]; simp
    have hK5 : W5.heap[D]? = some (.deferred (some [])) := (n5.block D (Array.getElem?_eq_some_iff.1 hK).1).trans hK
    have xin : ∀ j, j < W5.heap.size → ¬ H j → ¬ G2' j → Xin W5 H G2' j := fun j a b c => ⟨a, b, c⟩
    have hgl : ∀ j, H j → j < W.heap.size := fun j hj => (hq.lst.cel j hj).lt
    have h2l : ∀ j, G2' j → j < W.heap.size := fun j hj => (hq.pos.cel j hj).lt
    have sW := hq.nx.size
    have SEQ := while1_seq W5 w w.heap.size p2 W.heap.size (W.heap.size + 1) (Xin W5 H G2') G2' s2' r (fun _ => true) _ _ (.inl ⟨rfl, rfl⟩) 11 (fun j hj => hj.1) (fun j hj => xin j (by omega) (fun e => by have := hq.lst.ge j e; omega) (fun e => by have := hq.pos.ge j e; omega))
      (xin _ (by omega) (fun e => by have := hgl _ e; omega) (fun e => by have := h2l _ e; omega)) (xin _ (by omega) (fun e => by have := hgl _ e; omega) (fun e => by have := h2l _ e; omega)) cp cm (asc_meant _ _) (hq.pos.nx n5) hq.stk hfl (fun j hj hxj => hxj.2.2 hj) (Nx.trans hq.nx n5) (by omega) hrl
    have L5 : Lp W5 w (w.heap.size + 1 + 1) (Xin W5 H G2') G2' ls W5 := ⟨⟨H, hq.lst.nx n5, hq.h2, fun j hj hx => hx.2.1 hj⟩, hq.pos.ge, fun j hj hx => hx.2.2 hj, hq.nx.trans n5, fun _ _ => rfl, Nat.le_refl _⟩
    have HLS : Hid (ls.length ≤ 200000000) := by
      have e := congrArg List.length hch
      rw [List.length_append] at e
      have := chg_len t.pairs to.pairs
      have := HEZ.out
      show _ ≤ _
      omega
    have HSQ5 := Lib.hid SEQ
    have HL5 := Lib.hid L5
    have HASC := Lib.hid ASC
    have HCH := Lib.hid hch
    have hw5 : Hid (w.heap.size ≤ W5.heap.size) := by show _ ≤ _; omega
    have HK5 := Lib.hid hK5
    have HDW : Hid (w.heap.size ≤ D ∧ D < W5.heap.size) := ⟨by have := HW4.out; omega, (Array.getElem?_eq_some_iff.1 hK5).1⟩
    have HNW : Hid (∀ V, Nx w V → ∀ b cs, b < w.heap.size → BlkIs w b 66 cs → BlkIs V b 66 cs) := fun V hV b cs hb hc => hc.at_ hV hb
    have FL5 := flowN_all r
    have HFL5 := Lib.hid FL5
    have HRL := Lib.hid hrl
    clear SEQ L5 ASC hch hK5 hq hdn hK hfl hrl cp cm z5 n5 hW5 xin hgl h2l sW FL5
    gi_wp2_with fail
    refine ⟨trivial, ?_⟩
    refine (callsIn_wide.2 HASC.out).mono ?_
    rintro e w' ⟨rfl, rfl⟩
    clear HASC t6
    gi_wp2_with fail
    refine range_x rfl (by decide) (gf := 66) (lb := #[.pointer (some ⟨W.heap.size, 0, none⟩), .pointer (some ⟨W.heap.size + 1, 0, none⟩)]) rfl trivial (enters_of Try.func66 (by kernel_rfl) rfl) HSQ5.out (fun _ => rfl) (fun j hj => hj.1)
      (fun j G3 V => Lp W5 w (w.heap.size + 1 + 1) (Xin W5 H G2') G3 (ls ++ (r.take j).map prOf) V ∧ KeepsFrom w.heap.size W5 V) (fun c j G3 V => False)
      (fun j G3 A G4 C h hm => ⟨h.1.mv (fun j hj => hj.1) hw5.out hm, h.2.trans (hm.from _)⟩) (fun c j G3 A G4 C h hm => h)
      (fun j G3 A C h hbk => ⟨h.1.bk (fun j hj => hj.1) (Nat.le_refl _) hw5.out hbk, KeepsFrom.bk h.2 hbk (Nat.le_refl _)⟩) (fun _ _ _ _ _ h _ => h)
      (fun G3 A C ⟨s', a1, a2, a3, a4⟩ hk => ⟨s', a1.bk hk, a2, a3, a4.trans (hk.below hw5.out (by have := a4.size; omega))⟩)
      ⟨by simpa using HL5.out, KeepsFrom.refl _ _⟩
      (fun b2 => { tmps := #[.agg #[.pointer u], .agg #[.pointer uo], .pointer (some ⟨w.heap.size, 0, none⟩), .pointer (some ⟨w.heap.size + 1, 0, none⟩), .slice none 0 0, .pointer (some ⟨w.heap.size + 1 + 1, 0, none⟩), .pointer (some ⟨W2.heap.size, 0, none⟩), undef, undef, undef, ptrV b2, .pointer (some ⟨w.heap.size + 1, 0, none⟩), .pointer uo, .pointer (some ⟨p2, 0, none⟩), .pointer (some ⟨w.heap.size, 0, none⟩), .pointer u, .pointer (some ⟨p1, 0, none⟩), .func (.func 66) #[] #[.pointer (some ⟨W3.heap.size, 0, none⟩), .pointer (some ⟨W3.heap.size + 1, 0, none⟩)], undef, undef, undef, undef, undef, undef, undef, undef, undef, undef, undef, undef, undef, undef, undef, undef, undef, undef, undef, undef, undef, undef, undef, undef, undef, undef, undef, undef, undef, undef, undef, undef, undef, undef, undef, undef, undef, undef, undef, undef, undef, undef, .pointer (some ⟨p2, 0, none⟩), .func (.func 66) #[] #[.pointer (some ⟨W.heap.size, 0, none⟩), .pointer (some ⟨W.heap.size + 1, 0, none⟩)], ptrV b2, undef, undef, undef, undef, undef, undef], defers := [] }) ?assign2 ?body2 ?done2 ?stop2
    case assign2 =>
      intro l2 x2 V K hK
      gi_wp2
      exact hK
    case body2 =>
      rintro l2 j b2 G3 V hl2 hr2 ⟨hL, hkf⟩ hcel3 hlt2 ⟨hb2, nn2, pl2, pr2, hk2, m1, m2⟩
      have hjr : j < r.length := Nat.lt_of_lt_of_le hlt2 (flowN_le _ _)
      obtain ⟨H3, hla, hap, hhx⟩ := hL.ex
      have HKB2 : Hid (∀ V', Nx V V' → Calls Try.prog 48 #[ptrV b2] V' fun e V9 => e = .returned (prV (prOf (kvAt r j))) ∧ Nx V' V9) := fun V' hV => pair_of V' b2 _ _ _ _ ((hk2.at_ hL.nx hb2).nx hV) m1 m2
      have HLN : Hid ((ls ++ (r.take j).map prOf).length < 1000000000) := by
        show _ < _
        rw [List.length_append, List.length_map, List.length_take]
        have := HLS.out
        have := HRL.out
        omega
      have HLP := Lib.hid hL
      have HAP := Lib.hid hap
      have HHX := Lib.hid hhx
      have HLA := Lib.hid hla
      have HCL := Lib.hid hcel3
      have HKF := Lib.hid hkf
      clear hL hap hhx hla hcel3 hk2 hb2 hkf
      gi_wp2_with fail
      refine push_round (s := 5) (x := 10) (d := 63) (f := 48) (xv := ptrV b2) (p := prOf (kvAt r j)) (enters_of Try.func48 (by kernel_rfl) rfl) (by decide) (by decide) (Nat.le_of_ble_eq_true rfl) rfl rfl HKB2.out HLA.out HLN.out ?_
      intro u0 u1 u2 u3 u4 W' H' hl' hm'
      obtain ⟨h1, h2⟩ := HLP.out.push (fun j hj => hj.1) HCL.out hw5.out HLA.out HAP.out HHX.out hl' hm'
      rw [List.append_assoc, ← map_snoc r j hjr] at h1
      exact ⟨hm'.from _, h2, h1, HKF.out.trans (hm'.from _)⟩
    case done2 =>
      rintro D2 G3 V hD2 ⟨hL, hkf⟩ hdn2 hK2
      rw [HFL5.out, List.take_length, HCH.out] at hL
      have hKD := hkf.same D _ HDW.out.1 HK5.out rfl
      obtain ⟨v, hv, r1, r2⟩ := hL.full hK2 (by have := hw5.out; omega)
      have hne : D2 ≠ D := by have := HDW.out.2; omega
      have hK1 : (V.putObj D2 (.deferred none)).heap[D]? = some (.deferred (some [])) := (World.putObj_heap_other hne.symm).trans hKD
      have bk2 : Bk w.heap.size (V.putObj D2 (.deferred none)) ((V.putObj D2 (.deferred none)).putObj D (.deferred none)) := Bk.put _ hK1 rfl HDW.out.1
      have R1 : Hid (Row ((V.putObj D2 (.deferred none)).putObj D (.deferred none)) w.heap.size v (chg t.pairs to.pairs)) := row_of_blk r1 fun j hj => bk2.blk (by
        obtain ⟨_, cs, hc⟩ := own_row_blk' r1 hj
        exact hc.cel)
      have R2 : Hid (Nx w ((V.putObj D2 (.deferred none)).putObj D (.deferred none))) := Below.trans r2 (bk2.below (Nat.le_refl _) r2.size)
      have HK2 := Lib.hid hK2
      have HK1 := Lib.hid hK1
      clear hL hkf hdn2 hK2 hKD r1 r2 bk2 hK1
      gi_wp2_with fail
      refine ⟨by simp, .inl ⟨_, _, rfl, run_takeDeferred HK2.out, ?_⟩⟩
      refine ⟨by simp, .inl ⟨_, _, rfl, run_takeDeferred HK1.out, ?_⟩⟩
      exact ⟨_, results_tmp (t := 4) rfl _ _ _, v, rfl, R1.out, R2.out⟩
    case stop2 =>
      rintro D2 c j G3 V hD2 h
      exact h.elim
  case stop =>
    rintro D c i G' W hD h hK
    exact h.elim
end Go.Proofs.Ytekcphpeaoaaaaa

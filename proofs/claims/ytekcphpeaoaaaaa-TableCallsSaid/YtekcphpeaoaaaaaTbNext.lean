/- Package table: Next. -/
import Derived.Test.YtekcphpeaoaaaaaTbTabB
namespace Go.Proofs.Ytekcphpeaoaaaaa
open Go.RowKit Go.Shelf
set_option linter.unusedVariables false

attribute [local go_sem] Oper.semAt_some

/-- What a loop keeps that turns nothing. -/
structure Ks (W0 w : World) (X G : Nat → Prop) (W : World) : Prop where
  gg : ∀ j, G j → w.heap.size ≤ j
  ap : ∀ j, G j → ¬ X j
  nx : Nx w W
  fix : ∀ j, X j → W.heap[j]? = W0.heap[j]?
  sz : W0.heap.size ≤ W.heap.size
section
variable {W0 w : World} {X G G' : Nat → Prop} {W W' : World}
theorem Ks.mv (h : Ks W0 w X G W) (hX : ∀ j, X j → j < W0.heap.size) (hw : w.heap.size ≤ W0.heap.size) (hm : Mv G W G' W') : Ks W0 w X G' W' := by
  refine ⟨fun j hj => ?_, fun j hj hxj => ?_, ?_, fun j hj => ?_, Nat.le_trans h.sz hm.chd.size⟩
  · rcases (hm.new j hj).1 with e | e
    · exact h.gg j e
    · have := h.nx.size; omega
  · rcases (hm.new j hj).1 with e | e
    · exact h.ap j e hxj
    · have := hX j hxj; have := h.sz; omega
  · exact Nx.below h.nx (show Nx W W from Nx.refl W) (Nat.le_refl _) |>.trans (hm.chd.below h.nx.size fun j hj e => by have := h.gg j e; omega)
  · exact (hm.chd.block j (Nat.lt_of_lt_of_le (hX j hj) h.sz) (fun e => h.ap j e hj)).trans (h.fix j hj)
theorem Ks.next (h : Ks W0 w X G W) (hX : ∀ j, X j → j < W0.heap.size) (hc : ∀ j, G j → Cel W j) (hw : w.heap.size ≤ W0.heap.size) (hn : Nx W W') : Ks W0 w X G W' := h.mv hX hw (Mv.of_nx hn hc)
theorem Ks.bk {n : Nat} (h : Ks W0 w X G W) (hX : ∀ j, X j → j < W0.heap.size) (hn : W0.heap.size ≤ n) (hw : w.heap.size ≤ W0.heap.size) (hb : Bk n W W') : Ks W0 w X G W' := by
  refine ⟨h.gg, h.ap, ?_, fun j hj => ?_, Nat.le_trans h.sz hb.size⟩
  · exact Below.trans h.nx (hb.below (Nat.le_trans hw hn) h.nx.size)
  · exact (hb.block j (Nat.lt_of_lt_of_le (hX j hj) h.sz) (fun e => by have := e.1; have := hX j hj; omega)).trans (h.fix j hj)
end
theorem find_stop {α : Type} (p : α → Bool) : ∀ (xs : List α) (i : Nat) (h : i < xs.length), (∀ e ∈ xs.take i, p e = false) → p xs[i] = true → xs.find? p = some xs[i]
  | [], i, h, _, _ => by cases h
  | x :: xs, 0, _, _, h => by
    have h : p x = true := h
    rw [List.find?_cons, h]; rfl
  | x :: xs, i + 1, hl, h, hp => by
    have h0 := h x (by simp)
    rw [List.find?_cons, h0]
    exact find_stop p xs i (by simpa using hl) (fun e he => h e (by rw [List.take_succ_cons]; exact List.mem_cons_of_mem _ he)) hp
theorem next_eq {key : Str} {xs : List KV} (hs : Srt xs) : next key xs = (xs.drop (place key xs)).find? fun e => lt key e.1 := by
  unfold next
  have e : xs.find? (fun e => lt key e.1) = (xs.take (place key xs) ++ xs.drop (place key xs)).find? (fun e => lt key e.1) := by rw [List.take_append_drop]
  rw [e, List.find?_append]
  have : (xs.take (place key xs)).find? (fun e => lt key e.1) = none := by
    rw [List.find?_eq_none]
    intro x hx
    rw [lt_asymm (place_below key xs x hx)]; decide
  rw [this]; rfl
def nextV : Option KV → Value
  | some e => .tuple #[prV (prOf e), .bool true]
  | none => .tuple #[prV ⟨[], [], false⟩, .bool false]

def Xn (W0 : World) (G0 : Nat → Prop) (j : Nat) : Prop := j < W0.heap.size ∧ ¬ G0 j
set_option maxRecDepth 100000 in
set_option maxHeartbeats 4000000 in
theorem next_any_ (w : World) (B : Nat) (v : Value) (t : T) (key : Str) (hin : In w B v t) (hs : Srt t.pairs) (hn : t.size ≤ 100000000) :
    Calls Try.prog 18 #[.agg #[v], .string (S key)] w fun e w' => e = .returned (nextV (next key t.pairs)) ∧ Nx w w' := by
  obtain ⟨u, rfl⟩ := hin.ptr
  refine (callsIn_wide (n := 6)).1 ?_
  refine callsIn_of_wp_marks Try.func18 rfl trivial ?_ rfl
  simp only [Try.ntmps18, List.size_toArray, List.length_cons, List.length_nil, Nat.reduceAdd, Nat.reduceSub, Array.replicate_succ, Array.replicate_zero, List.push_toArray, List.append_toArray, List.nil_append, List.cons_append]
  obtain ⟨W1, hW1⟩ : ∃ W1, (((w.alloc (.cells #[.pointer u] 24)).alloc (.cells #[.string (S key)] 9)).alloc (.cells #[.string ⟨#[]⟩, .string ⟨#[]⟩, .bool false] 40)).alloc (.cells #[.bool false] 4) = W1 := ⟨_, rfl⟩
  have bx : BlkIs W1 w.heap.size 24 #[.pointer u] ∧ BlkIs W1 (w.heap.size + 1) 9 #[.string (S key)] ∧ BlkIs W1 (w.heap.size + 1 + 1) 40 #[.string ⟨#[]⟩, .string ⟨#[]⟩, .bool false] ∧ BlkIs W1 (w.heap.size + 1 + 1 + 1) 4 #[.bool false] ∧ Nx w W1 ∧ W1.heap.size = w.heap.size + 4 := by
    rw [← hW1]
    have n0 := Nx.refl w
    have a1 := box_blk w (.pointer u) 24
    have a2 := box_blk (w.alloc (.cells #[.pointer u] 24)) (.string (S key)) 9
    have a3 := BlkIs.new ((w.alloc (.cells #[.pointer u] 24)).alloc (.cells #[.string (S key)] 9)) 40 #[.string ⟨#[]⟩, .string ⟨#[]⟩, .bool false]
    have a4 := box_blk (((w.alloc (.cells #[.pointer u] 24)).alloc (.cells #[.string (S key)] 9)).alloc (.cells #[.string ⟨#[]⟩, .string ⟨#[]⟩, .bool false] 40)) (.bool false) 4
    simp only [World.size_alloc] at a2 a3 a4
    refine ⟨((a1.nx (Nx.alloc (Nx.refl _) _)).nx (Nx.alloc (Nx.refl _) _)).nx (Nx.alloc (Nx.refl _) _), (a2.nx (Nx.alloc (Nx.refl _) _)).nx (Nx.alloc (Nx.refl _) _), a3.nx (Nx.alloc (Nx.refl _) _), a4, (((n0.alloc _).alloc _).alloc _).alloc _, by simp⟩
  obtain ⟨b0, b1, b2, b3, n1, z1⟩ := bx
  have BEF := Lib.hid (before_any W1 w.heap.size (.pointer u) t key ((hin.dom).below (Below.mono n1 (Nat.le_refl _))) hs n1.size hn)
  have c0 : W1.cell? ⟨w.heap.size, 0, none⟩ = some (.pointer u) := by rw [b0.cell]; rfl
  have c1 : W1.cell? ⟨w.heap.size + 1, 0, none⟩ = some (.string (S key)) := by rw [b1.cell]; rfl
  have B1 := Lib.hid b1
  have B2 := Lib.hid b2
  have B3 := Lib.hid b3
  have N1 := Lib.hid n1
  have Z1 := Lib.hid z1
  have HS := Lib.hid hs
  have HN := Lib.hid hn
  have HTS := Lib.hid (T.size_eq t)
  clear b0 b1 b2 b3 n1 z1 hin hs hn
  gi_wp2_with fail
  refine ⟨trivial, ?_⟩
  refine (callsIn_wide.2 BEF.out).mono ?_
  rintro e W2 ⟨p, rfl, pb, G, s, rfl, hp2, hn2, hg2, hs2, hf2, hl2⟩
  have ASC := (ascending_any W2 pb).mono (R' := fun e w' => e = .returned (.func (.func 66) #[] #[.pointer (some ⟨W2.heap.size, 0, none⟩), .pointer (some ⟨W2.heap.size + 1, 0, none⟩)]) ∧ (W2.alloc (.cells #[ptrV pb] 74)).alloc (.cells #[.func (.func 61) #[] #[]] 82) = w') (fun _ _ h => ⟨h.1, h.2.symm⟩)
  clear hW1 c0 c1 BEF
  obtain ⟨W3, hW3⟩ : ∃ W3, (W2.alloc (.cells #[ptrV pb] 74)).alloc (.cells #[.func (.func 61) #[] #[]] 82) = W3 := ⟨_, rfl⟩
  rw [hW3] at ASC
  replace ASC := Lib.hid ASC
  have n3 : Nx W2 W3 := by rw [← hW3]; exact ((Nx.refl _).alloc _).alloc _
  have cp : BlkIs W3 W2.heap.size 74 #[ptrV pb] := by rw [← hW3]; exact (box_blk W2 _ _).nx ((Nx.refl _).alloc _)
  have cm : BlkIs W3 (W2.heap.size + 1) 82 #[.func (.func 61) #[] #[]] := by
    rw [← hW3]
    have := box_blk (W2.alloc (.cells #[ptrV pb] 74)) (.func (.func 61) #[] #[]) 82
    rwa [World.size_alloc] at this
  have z3 : W3.heap.size = W2.heap.size + 2 := by rw [← hW3]; simp
  obtain ⟨xs, hxs⟩ : ∃ xs, t.pairs.drop (place key t.pairs) = xs := ⟨_, rfl⟩
  rw [hxs] at hf2
  have hxl : xs.length ≤ 100000000 := by
    have h1 := HTS.out
    have h2 := HN.out
    rw [← hxs, List.length_drop]
    omega
  have z12 := Z1.out
  have zz := hn2.size
  have gX : ∀ j, G j → ¬ Xn W3 G j := fun j hj hx => hx.2 hj
  have hXl : ∀ j, Xn W3 G j → j < W3.heap.size := fun j hj => hj.1
  have hw3 : w.heap.size ≤ W3.heap.size := by omega
  have nw : ∀ j, j < W1.heap.size → Xn W3 G j := fun j hj => ⟨by omega, fun e => by have := hg2 j e; omega⟩
  have xp : Xn W3 G W2.heap.size := ⟨by omega, fun e => by have := (hp2.cel _ e).lt; omega⟩
  have xm : Xn W3 G (W2.heap.size + 1) := ⟨by omega, fun e => by have := (hp2.cel _ e).lt; omega⟩
  have P3 := hp2.nx n3
  have SEQ := while1_seq W3 W1 w.heap.size pb W2.heap.size (W2.heap.size + 1) (Xn W3 G) G s xs (fun _ => true) _ _ (.inl ⟨rfl, rfl⟩) 5 hXl (fun j hj => nw j (by omega)) xp xm cp cm (asc_meant _ _) P3 hs2 hf2 gX
    ((Below.mono hn2 (by omega)).trans (Below.mono n3 (by omega))) (by omega) hxl
  have L0 : Ks W3 w (Xn W3 G) G W3 := ⟨fun j hj => by have := hg2 j hj; omega, gX, (N1.out.trans hn2).trans n3, fun _ _ => rfl, Nat.le_refl _⟩
  have FL := flowN_all xs
  have G0 : ∀ e ∈ xs.take 0, lt key e.1 = false := fun e he => by simp at he
  have RES : Hid (next key t.pairs = xs.find? fun e => lt key e.1) := by rw [next_eq HS.out, hxs]; rfl
  have BXS : Hid (∀ W, (∀ j, Xn W3 G j → W.heap[j]? = W3.heap[j]?) → BlkIs W (w.heap.size + 1) 9 #[.string (S key)] ∧ BlkIs W (w.heap.size + 1 + 1) 40 #[.string ⟨#[]⟩, .string ⟨#[]⟩, .bool false] ∧ BlkIs W (w.heap.size + 1 + 1 + 1) 4 #[.bool false] ∧
      ∀ b cs, b < w.heap.size → BlkIs W1 b 66 cs → BlkIs W b 66 cs) := fun W h =>
    ⟨(h _ (nw _ (by omega))).trans ((B1.out.nx hn2).nx n3), (h _ (nw _ (by omega))).trans ((B2.out.nx hn2).nx n3), (h _ (nw _ (by omega))).trans ((B3.out.nx hn2).nx n3), fun b cs hb hc => (h _ (nw _ (by omega))).trans ((hc.nx hn2).nx n3)⟩
  have GAP : Hid (∀ j, G j → w.heap.size + 4 ≤ j) := fun j hj => by have := hg2 j hj; omega
  have HW4 : Hid (w.heap.size + 4 ≤ W3.heap.size) := by show _ ≤ _; omega
  have HSEQ := Lib.hid SEQ
  have HL0 := Lib.hid L0
  have HG0 := Lib.hid G0
  have HXL := Lib.hid hXl
  have HFL := Lib.hid FL
  have HXN := Lib.hid hxl
  have HW3 : Hid (w.heap.size ≤ W3.heap.size) := hw3
  have Z3 := Lib.hid z3
  have HDB : Hid (∀ G' A C, DnX W1 w.heap.size pb xs (flowN (fun _ => true) xs) G' A → Bk W3.heap.size A C → DnX W1 w.heap.size pb xs (flowN (fun _ => true) xs) G' C) := fun G' A C ⟨s', a1, a2, a3, a4⟩ hk =>
    ⟨s', a1.bk hk, a2, a3, a4.trans (hk.below hw3 (by have := a4.size; omega))⟩
  clear SEQ L0 G0 hXl FL hxl hw3 z3 z12 zz gX nw xp xm P3 cp cm hW3 n3 hp2 hn2 hg2 hs2 hf2 hl2 hxs N1 Z1 B1 B2 B3 HS HN HTS
  gi_wp2_with fail
  refine ⟨trivial, ?_⟩
  refine (callsIn_wide.2 ASC.out).mono ?_
  rintro e w' ⟨rfl, rfl⟩
  clear ASC
  gi_wp2_with fail
  refine range_x rfl (by decide) (gf := 66) (lb := #[.pointer (some ⟨W2.heap.size, 0, none⟩), .pointer (some ⟨W2.heap.size + 1, 0, none⟩)]) rfl trivial (enters_of Try.func66 (by kernel_rfl) rfl) HSEQ.out (fun _ => rfl) HXL.out
    (fun i G' W => Ks W3 w (Xn W3 G) G' W ∧ ∀ e ∈ xs.take i, lt key e.1 = false)
    (fun c i G' W => c = .ret ∧ ∃ e : KV, next key t.pairs = some e ∧ BlkIs W (w.heap.size + 1 + 1) 40 (prC (prOf e)).toArray ∧ BlkIs W (w.heap.size + 1 + 1 + 1) 4 #[.bool true] ∧ Nx w W ∧ w.heap.size + 4 ≤ W.heap.size ∧ ∀ j, G' j → w.heap.size + 4 ≤ j)
    (fun i G' A G'' C h hm => ⟨h.1.mv HXL.out HW3.out hm, h.2⟩) ?ixs
    (fun i G' A C h hb => ⟨h.1.bk HXL.out (Nat.le_refl _) HW3.out hb, h.2⟩) ?ixb HDB.out
    ⟨HL0.out, HG0.out⟩
    (fun b => { tmps := #[.agg #[.pointer u], .string (S key), .pointer (some ⟨w.heap.size, 0, none⟩), .pointer (some ⟨w.heap.size + 1, 0, none⟩), .pointer (some ⟨w.heap.size + 1 + 1, 0, none⟩), .pointer (some ⟨w.heap.size + 1 + 1 + 1, 0, none⟩), ptrV b,
      .pointer (some ⟨w.heap.size, 0, none⟩), .pointer u, .string (S key), ptrV pb, .func (.func 66) #[] #[.pointer (some ⟨W2.heap.size, 0, none⟩), .pointer (some ⟨W2.heap.size + 1, 0, none⟩)], ptrV b, undef, undef, undef, undef, undef, undef, undef, undef, undef], defers := [] }) ?assign ?body ?done ?stop
  case ixs =>
    rintro c i G' A G'' C ⟨hc, e, he, q1, q2, hn, hz, hg⟩ hm
    refine ⟨hc, e, he, q1.chd hm.chd (fun e => by have := hg _ e; omega), q2.chd hm.chd (fun e => by have := hg _ e; omega), Below.trans hn (hm.chd.below hn.size fun j hj e => by have := hg j e; omega), Nat.le_trans hz hm.chd.size, fun j hj => ?_⟩
    rcases (hm.new j hj).1 with e | e
    · exact hg j e
    · omega
  case ixb =>
    rintro c i G' A C ⟨hc, e, he, q1, q2, hn, hz, hg⟩ hb
    exact ⟨hc, e, he, (hb.blk q1.cel).trans q1, (hb.blk q2.cel).trans q2, Below.trans hn (hb.below HW3.out hn.size), Nat.le_trans hz hb.size, hg⟩
  case assign =>
    intro l x W K hK
    gi_wp2
    exact hK
  case body =>
    rintro l i b G' W hl0 hr ⟨hL, hgood⟩ hcel hlt ⟨hb, nn, pl, pr, hk, k1, k2⟩
    obtain ⟨e1, e2, e3, e4⟩ := BXS.out W hL.fix
    have hkb := e4 b _ hb hk
    have hil : i < xs.length := by have := HFL.out; omega
    have t1 : W.cell? ⟨w.heap.size + 1, 0, none⟩ = some (.string (S key)) := by rw [e1.cell]; rfl
    have t3 := (node_at hkb).c0
    have n0 : Nx W W := Nx.refl W
    by_cases g1 : lt key (kvAt xs i).1 = true
    · have d1 : Op.bytesLess (S (kvAt xs i).1).toList (S key).toList = false := by rw [S_lt]; exact lt_asymm g1
      have d2 : ((S (kvAt xs i).1).toList == (S key).toList) = false := by rw [S_eq]; simpa using (lt_ne g1).symm
      have NE : Hid (next key t.pairs = some (kvAt xs i)) := by
        rw [RES.out, kvAt_get hil]
        exact find_stop _ xs i hil hgood (by rw [← kvAt_get hil]; exact g1)
      have PC : Hid (∀ q, Calls Try.prog 48 #[ptrV b] (W.drewN q) fun e V' => e = .returned (prV (prOf (kvAt xs i))) ∧ Nx (W.drewN q) V') := fun q => pair_any _ b _ _ _ _ _ (hkb.nx (Nx.drewN n0 q)) k1 k2
      have CF : Hid (∀ V, Nx W V → V.cell? ⟨w.heap.size + 1 + 1, 0, none⟩ = some (.string ⟨#[]⟩) ∧ V.cell? ⟨w.heap.size + 1 + 1, 1, none⟩ = some (.string ⟨#[]⟩) ∧ V.cell? ⟨w.heap.size + 1 + 1, 2, none⟩ = some (.bool false) ∧ V.frozen? ⟨w.heap.size + 1 + 1, 0, none⟩ = false ∧ V.frozen? ⟨w.heap.size + 1 + 1, 1, none⟩ = false ∧ V.frozen? ⟨w.heap.size + 1 + 1, 2, none⟩ = false ∧
          V.cell? ⟨w.heap.size + 1 + 1 + 1, 0, none⟩ = some (.bool false) ∧ V.frozen? ⟨w.heap.size + 1 + 1 + 1, 0, none⟩ = false) := fun V hV => by
        have a2 := e2.nx hV
        have a3 := e3.nx hV
        exact ⟨by rw [a2.cell]; rfl, by rw [a2.cell]; rfl, by rw [a2.cell]; rfl, a2.frozen 0, a2.frozen 1, a2.frozen 2, by rw [a3.cell]; rfl, a3.frozen 0⟩
      unfold ptrV
      gi_wp2_with fail
      refine region_quiet (by kernel_rfl) (noDefer_of (by kernel_rfl)) (by kernel_rfl) ?_
      repeat (gi_big_quiet_step (fail))
      refine wpQuietIn_nil ?_
      rintro _ ⟨nq, rfl⟩
      gi_wp2_with fail
      refine ⟨trivial, ?_⟩
      refine (CallsIn.inRound l (callsIn_wide.2 (PC.out nq))).mono ?_
      rintro e V ⟨rfl, hV⟩
      have hV := (Nx.drewN n0 nq).trans hV
      obtain ⟨u0, u1, u2, u3, u4, u5, u6, u7⟩ := CF.out V hV
      unfold prV prOf
      have FIN : Hid (KeepsFrom W3.heap.size W ((((V.setCell ⟨w.heap.size + 1 + 1, 0, none⟩ (.string (S (kvAt xs i).1))).setCell ⟨w.heap.size + 1 + 1, 1, none⟩ (.string (S (kvAt xs i).2))).setCell ⟨w.heap.size + 1 + 1, 2, none⟩ (.bool false)).setCell ⟨w.heap.size + 1 + 1 + 1, 0, none⟩ (.bool true)) ∧ Code.ret = Code.ret ∧ ∃ e : KV, next key t.pairs = some e ∧ BlkIs ((((V.setCell ⟨w.heap.size + 1 + 1, 0, none⟩ (.string (S (kvAt xs i).1))).setCell ⟨w.heap.size + 1 + 1, 1, none⟩ (.string (S (kvAt xs i).2))).setCell ⟨w.heap.size + 1 + 1, 2, none⟩ (.bool false)).setCell ⟨w.heap.size + 1 + 1 + 1, 0, none⟩ (.bool true)) (w.heap.size + 1 + 1) 40 (prC (prOf e)).toArray ∧ BlkIs ((((V.setCell ⟨w.heap.size + 1 + 1, 0, none⟩ (.string (S (kvAt xs i).1))).setCell ⟨w.heap.size + 1 + 1, 1, none⟩ (.string (S (kvAt xs i).2))).setCell ⟨w.heap.size + 1 + 1, 2, none⟩ (.bool false)).setCell ⟨w.heap.size + 1 + 1 + 1, 0, none⟩ (.bool true)) (w.heap.size + 1 + 1 + 1) 4 #[.bool true] ∧ Nx w ((((V.setCell ⟨w.heap.size + 1 + 1, 0, none⟩ (.string (S (kvAt xs i).1))).setCell ⟨w.heap.size + 1 + 1, 1, none⟩ (.string (S (kvAt xs i).2))).setCell ⟨w.heap.size + 1 + 1, 2, none⟩ (.bool false)).setCell ⟨w.heap.size + 1 + 1 + 1, 0, none⟩ (.bool true)) ∧ w.heap.size + 4 ≤ ((((V.setCell ⟨w.heap.size + 1 + 1, 0, none⟩ (.string (S (kvAt xs i).1))).setCell ⟨w.heap.size + 1 + 1, 1, none⟩ (.string (S (kvAt xs i).2))).setCell ⟨w.heap.size + 1 + 1, 2, none⟩ (.bool false)).setCell ⟨w.heap.size + 1 + 1 + 1, 0, none⟩ (.bool true)).heap.size ∧ ∀ j, G' j → w.heap.size + 4 ≤ j) := by
        have q2 := e2.nx hV
        have q3 := e3.nx hV
        have CC : Chd (fun j => j = w.heap.size + 1 + 1 ∨ j = w.heap.size + 1 + 1 + 1) V ((((V.setCell ⟨w.heap.size + 1 + 1, 0, none⟩ (.string (S (kvAt xs i).1))).setCell ⟨w.heap.size + 1 + 1, 1, none⟩ (.string (S (kvAt xs i).2))).setCell ⟨w.heap.size + 1 + 1, 2, none⟩ (.bool false)).setCell ⟨w.heap.size + 1 + 1 + 1, 0, none⟩ (.bool true)) :=
          ((((Chd.set V _ 0 _).trans (Chd.set _ _ 1 _)).trans (Chd.set _ _ 2 _)).mono fun j _ e => .inl e).trans ((Chd.set _ _ 0 _).mono fun j _ e => .inr e)
        have z4 := HW4.out
        have s1 := hL.sz
        have s2 := hV.size
        have s3 := CC.size
        refine ⟨⟨Nat.le_trans s2 s3, fun k o hk ho hc => ?_⟩, rfl, _, NE.out, ?_, ?_, Below.trans (hL.nx.trans hV) (CC.below (by omega) fun j hj => by omega), by omega, fun j hj => ?_⟩
        · have hlt := (Array.getElem?_eq_some_iff.1 ho).1
          exact (CC.block k (by omega) (by omega)).trans ((hV.block k hlt).trans ho)
        · exact (((q2.set 0 _).set 1 _).set 2 _).chd (Chd.set _ _ 0 _) (by omega)
        · exact (((q3.chd (Chd.set V _ 0 _) (by omega)).chd (Chd.set _ _ 1 _) (by omega)).chd (Chd.set _ _ 2 _) (by omega)).set 0 _
        · by_cases hjl : j < W3.heap.size
          · exact GAP.out j (Classical.byContradiction fun hn => hL.ap j hj ⟨hjl, hn⟩)
          · omega
      clear hL hgood hcel hb hk hkb e1 e2 e3 e4 hr hV
      gi_wp2_with fail
      exact ⟨FIN.out.1, rfl, FIN.out.2.2⟩
    · have FIN : Hid (∀ q, KeepsFrom W3.heap.size W (W.drewN q) ∧ Kp (Xn W3 G) G' W (W.drewN q) ∧ Ks W3 w (Xn W3 G) G' (W.drewN q) ∧ ∀ e ∈ xs.take (i + 1), lt key e.1 = false) := fun q => by
        refine ⟨KeepsFrom.nx (Nx.drewN n0 q) _, (Nx.drewN n0 q).chd, hL.next HXL.out hcel HW3.out (Nx.drewN n0 q), fun e he => ?_⟩
        rw [List.take_succ_eq_append_getElem hil] at he
        rcases List.mem_append.1 he with he | he
        · exact hgood e he
        · rw [List.mem_singleton.1 he, ← kvAt_get hil]; simpa using g1
      have g0 : lt key (kvAt xs i).1 = false := by simpa using g1
      clear hL hgood hcel hb hk hkb e1 e2 e3 e4 hr
      by_cases g2 : lt (kvAt xs i).1 key = true
      · have d1 : Op.bytesLess (S (kvAt xs i).1).toList (S key).toList = true := by rw [S_lt]; exact g2
        unfold ptrV
        gi_wp2_with fail
        refine region_quiet (by kernel_rfl) (noDefer_of (by kernel_rfl)) (by kernel_rfl) ?_
        repeat (gi_big_quiet_step (fail))
        refine wpQuietIn_nil ?_
        rintro _ ⟨nq, rfl⟩
        gi_wp2_with fail
        exact FIN.out nq
      · have d1 : Op.bytesLess (S (kvAt xs i).1).toList (S key).toList = false := by rw [S_lt]; simpa using g2
        have d2 : ((S (kvAt xs i).1).toList == (S key).toList) = true := by
          rw [S_eq]
          have := lt_conn (by simpa using g2) g0
          simpa using this
        unfold ptrV
        gi_wp2_with fail
        refine region_quiet (by kernel_rfl) (noDefer_of (by kernel_rfl)) (by kernel_rfl) ?_
        repeat (gi_big_quiet_step (fail))
        refine wpQuietIn_nil ?_
        rintro _ ⟨nq, rfl⟩
        gi_wp2_with fail
        exact FIN.out nq
  case done =>
    rintro D G' W hD ⟨hL, hgood⟩ hdn hK
    obtain ⟨e1, e2, e3, e4⟩ := BXS.out W hL.fix
    rw [HFL.out, List.take_length] at hgood
    have NE : Hid (next key t.pairs = none) := by
      rw [RES.out, List.find?_eq_none]
      intro x hx
      rw [hgood x hx]; decide
    have c0 : W.cell? ⟨w.heap.size + 1 + 1, 0, none⟩ = some (.string ⟨#[]⟩) := by rw [e2.cell]; rfl
    have c1 : W.cell? ⟨w.heap.size + 1 + 1, 1, none⟩ = some (.string ⟨#[]⟩) := by rw [e2.cell]; rfl
    have c2 : W.cell? ⟨w.heap.size + 1 + 1, 2, none⟩ = some (.bool false) := by rw [e2.cell]; rfl
    have c3 : W.cell? ⟨w.heap.size + 1 + 1 + 1, 0, none⟩ = some (.bool false) := by rw [e3.cell]; rfl
    have f0 := e2.frozen 0
    have f1 := e2.frozen 1
    have f2 := e2.frozen 2
    have f3 := e3.frozen 0
    have hD4 := HW4.out
    have FIN : Hid (∀ V, V = ((((W.setCell ⟨w.heap.size + 1 + 1, 0, none⟩ (.string ⟨#[]⟩)).setCell ⟨w.heap.size + 1 + 1, 1, none⟩ (.string ⟨#[]⟩)).setCell ⟨w.heap.size + 1 + 1, 2, none⟩ (.bool false)).setCell ⟨w.heap.size + 1 + 1 + 1, 0, none⟩ (.bool false)) →
        V.heap[D]? = some (.deferred (some [])) ∧ BlkIs (V.putObj D (.deferred none)) (w.heap.size + 1 + 1) 40 #[.string ⟨#[]⟩, .string ⟨#[]⟩, .bool false] ∧ (V.putObj D (.deferred none)).cell? ⟨w.heap.size + 1 + 1 + 1, 0, none⟩ = some (.bool false) ∧ Nx w (V.putObj D (.deferred none))) := by
      rintro V rfl
      have CC : Chd (fun j => j = w.heap.size + 1 + 1 ∨ j = w.heap.size + 1 + 1 + 1) W ((((W.setCell ⟨w.heap.size + 1 + 1, 0, none⟩ (.string ⟨#[]⟩)).setCell ⟨w.heap.size + 1 + 1, 1, none⟩ (.string ⟨#[]⟩)).setCell ⟨w.heap.size + 1 + 1, 2, none⟩ (.bool false)).setCell ⟨w.heap.size + 1 + 1 + 1, 0, none⟩ (.bool false)) :=
        ((((Chd.set W _ 0 _).trans (Chd.set _ _ 1 _)).trans (Chd.set _ _ 2 _)).mono fun j _ e => .inl e).trans ((Chd.set _ _ 0 _).mono fun j _ e => .inr e)
      have q2 := (((e2.set 0 (.string ⟨#[]⟩)).set 1 (.string ⟨#[]⟩)).set 2 (.bool false)).chd (Chd.set _ (w.heap.size + 1 + 1 + 1) 0 (.bool false)) (by omega)
      have q3 := (((e3.chd (Chd.set W (w.heap.size + 1 + 1) 0 (.string ⟨#[]⟩)) (by omega)).chd (Chd.set _ (w.heap.size + 1 + 1) 1 (.string ⟨#[]⟩)) (by omega)).chd (Chd.set _ (w.heap.size + 1 + 1) 2 (.bool false)) (by omega)).set 0 (.bool false)
      have hK2 := (CC.block D (Array.getElem?_eq_some_iff.1 hK).1 (by omega)).trans hK
      have bk := Bk.put (B := w.heap.size) (.deferred none) hK2 rfl (by omega)
      have s1 := hL.nx.size
      have s2 := CC.size
      have bk3 := (bk.blk q3.cel).trans q3
      exact ⟨hK2, (bk.blk q2.cel).trans q2, by rw [BlkIs.cell bk3]; rfl, Below.trans (Below.trans hL.nx (CC.below s1 fun j hj => by omega)) (bk.below (Nat.le_refl _) (by omega))⟩
    clear hL hgood hdn e1 e2 e3 e4 hK hD4
    gi_wp2_with fail
    obtain ⟨hK, k2, k3, k4⟩ := FIN.out _ rfl
    refine ⟨by simp, .inl ⟨_, _, rfl, run_takeDeferred hK, ?_⟩⟩
    refine ⟨_, results_cells2 rfl _ _ ⟨w.heap.size + 1 + 1, 0, none⟩ ⟨w.heap.size + 1 + 1 + 1, 0, none⟩ (.agg #[.string ⟨#[]⟩, .string ⟨#[]⟩, .bool false]) (.bool false) rfl rfl (run_loadVar_row _ _ _ _ _ _ _ k2 Try.underlying40 rfl (by kernel_rfl)) ?_, by rw [NE.out]; rfl, k4⟩
    simp [go_sem, k3]
    done
  case stop =>
    rintro D c i G' W hD ⟨rfl, e, he, q2, q3, hn, hz, hg⟩ hK
    have bk := Bk.put (B := w.heap.size) (.deferred none) hK rfl (by have := HW4.out; omega)
    have NE := Lib.hid he
    have k3 : (W.putObj D (.deferred none)).cell? ⟨w.heap.size + 1 + 1 + 1, 0, none⟩ = some (.bool true) := by rw [BlkIs.cell ((bk.blk q3.cel).trans q3)]; rfl
    have k2 := Lib.hid ((bk.blk q2.cel).trans q2)
    have k4 := Lib.hid (Below.trans hn (bk.below (Nat.le_refl _) hn.size))
    clear he q2 q3 hn hz hg bk
    gi_wp2_with fail
    refine ⟨by simp, .inl ⟨_, _, rfl, run_takeDeferred hK, ?_⟩⟩
    refine ⟨_, results_cells2 rfl _ _ ⟨w.heap.size + 1 + 1, 0, none⟩ ⟨w.heap.size + 1 + 1 + 1, 0, none⟩ (.agg (prC (prOf e)).toArray) (.bool true) rfl rfl (run_loadVar_row _ _ _ _ _ _ _ k2.out Try.underlying40 rfl (by kernel_rfl)) ?_, by rw [NE.out]; rfl, k4.out⟩
    simp [go_sem, k3]
    done
end Go.Proofs.Ytekcphpeaoaaaaa

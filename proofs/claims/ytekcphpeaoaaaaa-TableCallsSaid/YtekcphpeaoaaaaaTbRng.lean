/- Package table: Range. -/
import Derived.Test.YtekcphpeaoaaaaaTbPush
import Derived.Test.YtekcphpeaoaaaaaTbRound
namespace Go.Proofs.Ytekcphpeaoaaaaa
open Go.RowKit Go.Shelf
set_option linter.unusedVariables false

attribute [local go_sem] Oper.semAt_some

def okTo (to : Str) (e : KV) : Bool := to.isEmpty || lt e.1 to
theorem range_eq (frm to : Str) (most : Int) (ps : List KV) : range frm to most ps = ((ps.drop (place frm ps)).takeWhile (okTo to)).take most.toNat := rfl
theorem takeWhile_ok {α : Type} (p : α → Bool) : ∀ (xs : List α) (i : Nat), (∀ e ∈ xs.take i, p e = true) → (xs.takeWhile p).take i = xs.take i
  | [], i, _ => by simp
  | x :: xs, 0, _ => by simp
  | x :: xs, i + 1, h => by
    have h0 := h x (by simp)
    rw [List.takeWhile_cons, h0]
    simp only [if_true, List.take_succ_cons]
    rw [takeWhile_ok p xs i (fun e he => h e (by rw [List.take_succ_cons]; exact List.mem_cons_of_mem _ he))]
theorem takeWhile_stop {α : Type} (p : α → Bool) : ∀ (xs : List α) (i : Nat) (h : i < xs.length), (∀ e ∈ xs.take i, p e = true) → p xs[i] = false → xs.takeWhile p = xs.take i
  | [], i, h, _, _ => by cases h
  | x :: xs, 0, _, _, h => by
    have h : p x = false := h
    rw [List.takeWhile_cons, h]; rfl
  | x :: xs, i + 1, hl, h, hp => by
    have h0 := h x (by simp)
    rw [List.takeWhile_cons, h0]
    simp only [if_true, List.take_succ_cons]
    rw [takeWhile_stop p xs i (by simpa using hl) (fun e he => h e (by rw [List.take_succ_cons]; exact List.mem_cons_of_mem _ he)) hp]
def Good (to : Str) (most : Int) (xs : List KV) (i : Nat) : Prop := i ≤ most.toNat ∧ ∀ e ∈ xs.take i, okTo to e = true
theorem kvAt_get {xs : List KV} {i : Nat} (h : i < xs.length) : kvAt xs i = xs[i] := by unfold kvAt; rw [List.getD_eq_getElem?_getD, List.getElem?_eq_getElem h]; rfl
theorem Good.succ {to : Str} {most : Int} {xs : List KV} {i : Nat} (h : Good to most xs i) (hi : i < xs.length) (h1 : (i : Int) < most) (h2 : okTo to (kvAt xs i) = true) : Good to most xs (i + 1) := by
  refine ⟨by omega, fun e he => ?_⟩
  rw [List.take_succ_eq_append_getElem hi] at he
  rcases List.mem_append.1 he with he | he
  · exact h.2 e he
  · rw [List.mem_singleton.1 he, ← kvAt_get hi]; exact h2
theorem Good.full {to : Str} {most : Int} {xs : List KV} {i : Nat} (h : Good to most xs i) (h1 : most ≤ i) : (xs.takeWhile (okTo to)).take most.toNat = xs.take i := by
  have e : most.toNat = i := by have := h.1; omega
  rw [e]
  exact takeWhile_ok _ _ _ h.2
theorem Good.stop {to : Str} {most : Int} {xs : List KV} {i : Nat} (h : Good to most xs i) (hi : i < xs.length) (h2 : okTo to (kvAt xs i) = false) : (xs.takeWhile (okTo to)).take most.toNat = xs.take i := by
  rw [takeWhile_stop _ _ i hi h.2 (by rw [← kvAt_get hi]; exact h2)]
  exact List.take_of_length_le (by rw [List.length_take]; have := h.1; omega)
theorem Good.all {to : Str} {most : Int} {xs : List KV} (h : Good to most xs xs.length) : (xs.takeWhile (okTo to)).take most.toNat = xs := by
  have h2 := takeWhile_ok (okTo to) xs xs.length h.2
  rw [List.take_length] at h2
  have h3 : (xs.takeWhile (okTo to)).length ≤ xs.length := (List.takeWhile_sublist _).length_le
  rw [List.take_of_length_le (Nat.le_trans h3 h.1)]
  rw [List.take_of_length_le h3] at h2
  exact h2
theorem map_snoc (xs : List KV) (i : Nat) (h : i < xs.length) : (xs.take (i + 1)).map prOf = (xs.take i).map prOf ++ [prOf (kvAt xs i)] := by
  rw [List.take_succ_eq_append_getElem h, List.map_append, kvAt_get h]; rfl
theorem flowN_all (xs : List KV) : flowN (fun _ => true) xs = xs.length := by
  unfold flowN
  induction xs with
  | nil => rfl
  | cons x xs ih => rw [List.takeWhile_cons]; simp only [if_true, List.length_cons]; rw [ih]
theorem own_slice {W : World} {B size : Nat} {e : TypeId} {v : Value} {n : Nat} {xs : List Value} (h : W.ownsRow B e size v n xs) : ∃ A c, v = .slice A n c := by
  rcases h.2 with ⟨hv, h0⟩ | ⟨g, cap, cur, hv, _⟩
  · exact ⟨none, 0, by rw [hv, h0]⟩
  · exact ⟨_, _, hv⟩
theorem box_blk (w : World) (v : Value) (t : TypeId) : BlkIs (w.alloc (.cells #[v] t)) w.heap.size t #[v] := BlkIs.new w t #[v]

set_option maxRecDepth 100000 in
set_option maxHeartbeats 4000000 in
theorem range_any (w : World) (B : Nat) (v : Value) (t : T) (frm to : Str) (most : Int) (hin : In w B v t) (hs : Srt t.pairs) (hn : t.size ≤ 100000000) (hm1 : -9223372036854775808 ≤ most) (hm2 : most ≤ 9223372036854775807) :
    Calls Try.prog 23 #[.agg #[v], .string (S frm), .string (S to), .int .i64 most] w (Ret fun r w' => Row w' w.heap.size r ((range frm to most t.pairs).map prOf) ∧ Nx w w') := by
  obtain ⟨u, rfl⟩ := hin.ptr
  refine (callsIn_wide (n := 6)).1 ?_
  refine callsIn_of_wp_marks Try.func23 rfl trivial ?_ rfl
  simp only [Try.ntmps23, List.size_toArray, List.length_cons, List.length_nil, Nat.reduceAdd, Nat.reduceSub, Array.replicate_succ, Array.replicate_zero, List.push_toArray, List.append_toArray, List.nil_append, List.cons_append]
  obtain ⟨W1, hW1⟩ : ∃ W1, (((w.alloc (.cells #[.pointer u] 24)).alloc (.cells #[.string (S to)] 9)).alloc (.cells #[.int .i64 most] 3)).alloc (.cells #[.slice none 0 0] 33) = W1 := ⟨_, rfl⟩
  have bx : BlkIs W1 w.heap.size 24 #[.pointer u] ∧ BlkIs W1 (w.heap.size + 1) 9 #[.string (S to)] ∧ BlkIs W1 (w.heap.size + 1 + 1) 3 #[.int .i64 most] ∧ LstAt W1 w.heap.size (w.heap.size + 1 + 1 + 1) (fun j => j = w.heap.size + 1 + 1 + 1) [] ∧ Nx w W1 ∧ W1.heap.size = w.heap.size + 4 := by
    rw [← hW1]
    have n0 := Nx.refl w
    have a1 := box_blk w (.pointer u) 24
    have a2 := box_blk (w.alloc (.cells #[.pointer u] 24)) (.string (S to)) 9
    have a3 := box_blk ((w.alloc (.cells #[.pointer u] 24)).alloc (.cells #[.string (S to)] 9)) (.int .i64 most) 3
    have a4 := LstAt.new (((w.alloc (.cells #[.pointer u] 24)).alloc (.cells #[.string (S to)] 9)).alloc (.cells #[.int .i64 most] 3)) w.heap.size (by simp; omega)
    simp only [World.size_alloc] at a2 a3 a4
    refine ⟨((a1.nx (Nx.alloc (Nx.refl _) _)).nx (Nx.alloc (Nx.refl _) _)).nx (Nx.alloc (Nx.refl _) _), (a2.nx (Nx.alloc (Nx.refl _) _)).nx (Nx.alloc (Nx.refl _) _), a3.nx (Nx.alloc (Nx.refl _) _), a4, (((n0.alloc _).alloc _).alloc _).alloc _, by simp⟩
  obtain ⟨b0, b1, b2, b3, n1, z1⟩ := bx
  have BEF := Lib.hid (before_any W1 w.heap.size (.pointer u) t frm ((hin.dom).below (Below.mono n1 (Nat.le_refl _))) hs n1.size hn)
  have c0 : W1.cell? ⟨w.heap.size, 0, none⟩ = some (.pointer u) := by rw [b0.cell]; rfl
  have B1 := Lib.hid b1
  have B2 := Lib.hid b2
  have B3 := Lib.hid b3
  have N1 := Lib.hid n1
  have Z1 := Lib.hid z1
  have HS := Lib.hid hs
  have HN := Lib.hid hn
  have HTS := Lib.hid (T.size_eq t)
  clear b0 b1 b2 b3 n1 z1 hin hs hn
  gi_wp2_with fail
  refine ⟨trivial, ?_⟩
  refine (callsIn_wide.2 BEF.out).mono ?_
  rintro e W2 ⟨p, rfl, pb, G, s, rfl, hp2, hn2, hg2, hs2, hf2, hl2⟩
  have ASC := (ascending_any W2 pb).mono (R' := fun e w' => e = .returned (.func (.func 66) #[] #[.pointer (some ⟨W2.heap.size, 0, none⟩), .pointer (some ⟨W2.heap.size + 1, 0, none⟩)]) ∧ (W2.alloc (.cells #[ptrV pb] 74)).alloc (.cells #[.func (.func 61) #[] #[]] 82) = w') (fun _ _ h => ⟨h.1, h.2.symm⟩)
  clear hW1 c0 BEF
  obtain ⟨W3, hW3⟩ : ∃ W3, (W2.alloc (.cells #[ptrV pb] 74)).alloc (.cells #[.func (.func 61) #[] #[]] 82) = W3 := ⟨_, rfl⟩
  rw [hW3] at ASC
  replace ASC := Lib.hid ASC
  have n3 : Nx W2 W3 := by rw [← hW3]; exact ((Nx.refl _).alloc _).alloc _
  have cp : BlkIs W3 W2.heap.size 74 #[ptrV pb] := by rw [← hW3]; exact (box_blk W2 _ _).nx ((Nx.refl _).alloc _)
  have cm : BlkIs W3 (W2.heap.size + 1) 82 #[.func (.func 61) #[] #[]] := by
    rw [← hW3]
    have := box_blk (W2.alloc (.cells #[ptrV pb] 74)) (.func (.func 61) #[] #[]) 82
    rwa [World.size_alloc] at this
  have z3 : W3.heap.size = W2.heap.size + 2 := by rw [← hW3]; simp
  obtain ⟨xs, hxs⟩ : ∃ xs, t.pairs.drop (place frm t.pairs) = xs := ⟨_, rfl⟩
  rw [hxs] at hf2
  have hxl : xs.length ≤ 100000000 := by
    have h1 := HTS.out
    have h2 := HN.out
    rw [← hxs, List.length_drop]
    omega
  have z12 := Z1.out
  have zz := hn2.size
  have gX : ∀ j, G j → ¬ Xof W3 G (w.heap.size + 1 + 1 + 1) j := fun j hj hx => hx.2.1 hj
  have hXl : ∀ j, Xof W3 G (w.heap.size + 1 + 1 + 1) j → j < W3.heap.size := fun j hj => hj.1
  have hw3 : w.heap.size ≤ W3.heap.size := by omega
  have nw : ∀ j, j < W1.heap.size → j ≠ w.heap.size + 1 + 1 + 1 → Xof W3 G (w.heap.size + 1 + 1 + 1) j := fun j hj hne => ⟨by omega, fun e => by have := hg2 j e; omega, hne⟩
  have xp : Xof W3 G (w.heap.size + 1 + 1 + 1) W2.heap.size := ⟨by omega, fun e => by have := (hp2.cel _ e).lt; omega, by omega⟩
  have xm : Xof W3 G (w.heap.size + 1 + 1 + 1) (W2.heap.size + 1) := ⟨by omega, fun e => by have := (hp2.cel _ e).lt; omega, by omega⟩
  have P3 := hp2.nx n3
  have SEQ := while1_seq W3 W1 w.heap.size pb W2.heap.size (W2.heap.size + 1) (Xof W3 G (w.heap.size + 1 + 1 + 1)) G s xs (fun _ => true) _ _ (.inl ⟨rfl, rfl⟩) 5 hXl (fun j hj => nw j (by omega) (by omega)) xp xm cp cm (asc_meant _ _) P3 hs2 hf2 gX
    ((Below.mono hn2 (by omega)).trans (Below.mono n3 (by omega))) (by omega) hxl
  have L0 : Lp W3 w (w.heap.size + 1 + 1 + 1) (Xof W3 G (w.heap.size + 1 + 1 + 1)) G [] W3 :=
    ⟨⟨_, (B3.out.nx hn2).nx n3, fun j hj e => by have := hg2 j hj; omega, fun j e hx => hx.2.2 e⟩, fun j hj => by have := hg2 j hj; omega, gX, (N1.out.trans hn2).trans n3, fun _ _ => rfl, Nat.le_refl _⟩
  have FL := flowN_all xs
  have G0 : Good to most xs 0 := ⟨Nat.zero_le _, fun e he => by simp at he⟩
  have RES : Hid (range frm to most t.pairs = (xs.takeWhile (okTo to)).take most.toNat) := by rw [range_eq, hxs]; rfl
  have BXS : Hid (∀ W, (∀ j, Xof W3 G (w.heap.size + 1 + 1 + 1) j → W.heap[j]? = W3.heap[j]?) → BlkIs W (w.heap.size + 1) 9 #[.string (S to)] ∧ BlkIs W (w.heap.size + 1 + 1) 3 #[.int .i64 most] ∧
      ∀ b cs, b < w.heap.size → BlkIs W1 b 66 cs → BlkIs W b 66 cs) := fun W h =>
    ⟨(h _ (nw _ (by omega) (by omega))).trans ((B1.out.nx hn2).nx n3), (h _ (nw _ (by omega) (by omega))).trans ((B2.out.nx hn2).nx n3), fun b cs hb hc => (h _ (nw _ (by omega) (by omega))).trans ((hc.nx hn2).nx n3)⟩
  have HSEQ := Lib.hid SEQ
  have HL0 := Lib.hid L0
  have HG0 := Lib.hid G0
  have HXL := Lib.hid hXl
  have HFL := Lib.hid FL
  have HXN := Lib.hid hxl
  have HW3 : Hid (w.heap.size ≤ W3.heap.size) := hw3
  have Z3 := Lib.hid z3
  have HDB : Hid (∀ G' A C, DnX W1 w.heap.size pb xs (flowN (fun _ => true) xs) G' A → Bk W3.heap.size A C → DnX W1 w.heap.size pb xs (flowN (fun _ => true) xs) G' C) := fun G' A C ⟨s', a1, a2, a3, a4⟩ hk =>
    ⟨s', a1.bk hk, a2, a3, a4.trans (hk.below hw3 (by have := a4.size; omega))⟩
  clear SEQ L0 G0 hXl FL hxl hw3 z3 z12 zz gX nw xp xm P3 cp cm hW3 n3 hp2 hn2 hg2 hs2 hf2 hl2 hxs N1 Z1 B1 B2 B3 HS HN HTS
  gi_wp2_with fail
  refine ⟨trivial, ?_⟩
  refine (callsIn_wide.2 ASC.out).mono ?_
  rintro e w' ⟨rfl, rfl⟩
  clear ASC
  gi_wp2_with fail
  refine range_x rfl (by decide) (gf := 66) (lb := #[.pointer (some ⟨W2.heap.size, 0, none⟩), .pointer (some ⟨W2.heap.size + 1, 0, none⟩)]) rfl trivial (enters_of Try.func66 (by kernel_rfl) rfl) HSEQ.out (fun _ => rfl) HXL.out
    (fun i G' W => Lp W3 w (w.heap.size + 1 + 1 + 1) (Xof W3 G (w.heap.size + 1 + 1 + 1)) G' ((xs.take i).map prOf) W ∧ Good to most xs i)
    (fun c i G' W => c = .exit 0 ∧ Lp W3 w (w.heap.size + 1 + 1 + 1) (Xof W3 G (w.heap.size + 1 + 1 + 1)) G' (((xs.takeWhile (okTo to)).take most.toNat).map prOf) W)
    (fun i G' A G'' C h hm => ⟨h.1.mv HXL.out HW3.out hm, h.2⟩) (fun c i G' A G'' C h hm => ⟨h.1, h.2.mv HXL.out HW3.out hm⟩)
    (fun i G' A C h hb => ⟨h.1.bk HXL.out (Nat.le_refl _) HW3.out hb, h.2⟩) (fun c i G' A C h hb => ⟨h.1, h.2.bk HXL.out (Nat.le_refl _) HW3.out hb⟩) HDB.out
    ⟨HL0.out, HG0.out⟩
    (fun b => { tmps := #[.agg #[.pointer u], .string (S frm), .string (S to), .int .i64 most, .pointer (some ⟨w.heap.size, 0, none⟩), undef, .pointer (some ⟨w.heap.size + 1, 0, none⟩), .pointer (some ⟨w.heap.size + 1 + 1, 0, none⟩), .slice none 0 0, .pointer (some ⟨w.heap.size + 1 + 1 + 1, 0, none⟩), ptrV b,
      .pointer (some ⟨w.heap.size, 0, none⟩), .pointer u, .string (S frm), ptrV pb, .func (.func 66) #[] #[.pointer (some ⟨W2.heap.size, 0, none⟩), .pointer (some ⟨W2.heap.size + 1, 0, none⟩)], ptrV b, undef, undef, undef, undef, undef, undef, undef, undef, undef, undef, undef, undef, undef, undef, undef, undef, undef, undef, undef, undef, undef, undef], defers := [] }) ?assign ?body ?done ?stop
  case assign =>
    intro l x W K hK
    gi_wp2
    exact hK
  case body =>
    rintro l i b G' W hl0 hr ⟨hL, hgood⟩ hcel hlt ⟨hb, nn, pl, pr, hk, k1, k2⟩
    obtain ⟨e1, e2, e3⟩ := BXS.out W hL.fix
    have hkb := e3 b _ hb hk
    obtain ⟨H, hla, hap, hhx⟩ := hL.ex
    obtain ⟨lv, hlb, hlr, hlp, hlg⟩ := hla
    obtain ⟨A, c, rfl⟩ := own_slice hlr
    have hlen : ((xs.take i).map prOf).length = i := by rw [List.length_map, List.length_take]; have := HFL.out; omega
    have hil : i < xs.length := by have := HFL.out; omega
    rw [hlen] at hlb hlr hlg
    have t0 : W.cell? ⟨w.heap.size + 1 + 1 + 1, 0, none⟩ = some (.slice A i c) := by rw [hlb.cell]; rfl
    have t1 : W.cell? ⟨w.heap.size + 1, 0, none⟩ = some (.string (S to)) := by rw [e1.cell]; rfl
    have t2 : W.cell? ⟨w.heap.size + 1 + 1, 0, none⟩ = some (.int .i64 most) := by rw [e2.cell]; rfl
    have t3 := (node_at hkb).c0
    have hi9 : (i : Int) ≤ 100000000 := by have := HXN.out; omega
    by_cases g1 : most ≤ (i : Int)
    · have FIN : Hid (∀ q, KeepsFrom W3.heap.size W (W.drewN q) ∧ Code.exit 0 = Code.exit 0 ∧ Lp W3 w (w.heap.size + 1 + 1 + 1) (Xof W3 G (w.heap.size + 1 + 1 + 1)) G' (((xs.takeWhile (okTo to)).take most.toNat).map prOf) (W.drewN q)) := fun q => by
        rw [hgood.full g1]
        exact ⟨KeepsFrom.nx (Nx.drewN (Nx.refl _) q) _, rfl, hL.next HXL.out hcel HW3.out (Nx.drewN (Nx.refl _) q)⟩
      have d1 : decide (most ≤ (i : Int)) = true := by simpa using g1
      unfold ptrV
      clear hL hgood hcel hb hk hkb hlb hlr hlp hlg hap hhx e1 e2 e3 hr
      gi_wp2_with fail
      refine region_quiet (by kernel_rfl) (noDefer_of (by kernel_rfl)) (by kernel_rfl) ?_
      repeat (gi_big_quiet_step (fail))
      refine wpQuietIn_nil ?_
      rintro _ ⟨nq, rfl⟩
      gi_wp2_with fail
      exact ⟨(FIN.out nq).1, rfl, (FIN.out nq).2.2⟩
    · have g2 : (i : Int) < most := by omega
      have d1 : decide (most ≤ (i : Int)) = false := by simpa using g1
      have HLN : Hid (((xs.take i).map prOf).length < 1000000000) := by show _ < _; omega
      have NEXT : okTo to (kvAt xs i) = true → Hid (∀ q, (∀ V, Nx (W.drewN q) V → Calls Try.prog 48 #[ptrV b] V fun e V' => e = .returned (prV (prOf (kvAt xs i))) ∧ Nx V V') ∧ LstAt (W.drewN q) w.heap.size (w.heap.size + 1 + 1 + 1) H ((xs.take i).map prOf) ∧
          ∀ W' H', LstAt W' w.heap.size (w.heap.size + 1 + 1 + 1) H' ((xs.take i).map prOf ++ [prOf (kvAt xs i)]) → Mv H (W.drewN q) H' W' → True ∧ (KeepsFrom W3.heap.size W W' ∧ Kp (Xof W3 G (w.heap.size + 1 + 1 + 1)) G' W W' ∧ Lp W3 w (w.heap.size + 1 + 1 + 1) (Xof W3 G (w.heap.size + 1 + 1 + 1)) G' ((xs.take (i + 1)).map prOf) W' ∧ Good to most xs (i + 1))) := fun hok q => by
        have nd : Nx W (W.drewN q) := Nx.drewN (Nx.refl W) q
        have hla : LstAt W w.heap.size (w.heap.size + 1 + 1 + 1) H ((xs.take i).map prOf) := ⟨_, hlb, by rw [hlen]; exact hlr, hlp, hlg⟩
        refine ⟨fun V hV => pair_any V b _ _ _ _ _ (hkb.nx (nd.trans hV)) k1 k2, hla.nx nd, fun W' H' hl' hm' => ⟨trivial, ?_⟩⟩
        have m2 : Mv H W H' W' := (Mv.of_nx nd hla.cel).trans hm'
        obtain ⟨h1, h2⟩ := hL.push HXL.out hcel HW3.out hla hap hhx hl' m2
        rw [map_snoc xs i hil]
        exact ⟨m2.from _, h2, h1, hgood.succ hil g2 hok⟩
      by_cases hto : to = []
      · subst hto
        have d2 : ((S ([] : Str)).toList.isEmpty) = true := by rw [S_toList]; rfl
        replace NEXT := NEXT rfl
        unfold ptrV
        clear hL hgood hcel hb hk hkb hlb hlr hlp hlg hap hhx e1 e2 e3 hr
        gi_wp2_with fail
        refine region_quiet (by kernel_rfl) (noDefer_of (by kernel_rfl)) (by kernel_rfl) ?_
        repeat (gi_big_quiet_step (fail))
        refine wpQuietIn_nil ?_
        rintro _ ⟨nq, rfl⟩
        gi_wp2_with fail
        refine push_round (s := 9) (x := 10) (d := 33) (f := 48) (xv := ptrV b) (p := prOf (kvAt xs i)) (enters_of Try.func48 (by kernel_rfl) rfl) (by decide) (by decide) (Nat.le_of_ble_eq_true rfl) rfl rfl (NEXT.out nq).1 (NEXT.out nq).2.1 HLN.out ?_
        intro u0 u1 u2 u3 u4 W' H' hl' hm'
        exact ((NEXT.out nq).2.2 W' H' hl' hm').2
      · have d2 : ((S to).toList.isEmpty) = false := by
          rw [S_toList]
          cases to with
          | nil => exact absurd rfl hto
          | cons c tl => rfl
        unfold ptrV
        by_cases hk3 : lt (kvAt xs i).1 to = true
        · have d3 : Op.bytesLess (S (kvAt xs i).1).toList (S to).toList = true := by rw [S_lt]; exact hk3
          replace NEXT := NEXT (by unfold okTo; rw [hk3, Bool.or_true])
          clear hL hgood hcel hb hk hkb hlb hlr hlp hlg hap hhx e1 e2 e3 hr
          gi_wp2_with fail
          refine region_quiet (by kernel_rfl) (noDefer_of (by kernel_rfl)) (by kernel_rfl) ?_
          repeat (gi_big_quiet_step (fail))
          refine wpQuietIn_nil ?_
          rintro _ ⟨nq, rfl⟩
          gi_wp2_with fail
          refine push_round (s := 9) (x := 10) (d := 33) (f := 48) (xv := ptrV b) (p := prOf (kvAt xs i)) (enters_of Try.func48 (by kernel_rfl) rfl) (by decide) (by decide) (Nat.le_of_ble_eq_true rfl) rfl rfl (NEXT.out nq).1 (NEXT.out nq).2.1 HLN.out ?_
          intro u0 u1 u2 u3 u4 W' H' hl' hm'
          exact ((NEXT.out nq).2.2 W' H' hl' hm').2
        · have d3 : Op.bytesLess (S (kvAt xs i).1).toList (S to).toList = false := by rw [S_lt]; simpa using hk3
          have FIN : Hid (∀ q, KeepsFrom W3.heap.size W (W.drewN q) ∧ Code.exit 0 = Code.exit 0 ∧ Lp W3 w (w.heap.size + 1 + 1 + 1) (Xof W3 G (w.heap.size + 1 + 1 + 1)) G' (((xs.takeWhile (okTo to)).take most.toNat).map prOf) (W.drewN q)) := fun q => by
            rw [hgood.stop hil (by
              unfold okTo
              cases to with
              | nil => exact absurd rfl hto
              | cons c tl => simpa using hk3)]
            exact ⟨KeepsFrom.nx (Nx.drewN (Nx.refl _) q) _, rfl, hL.next HXL.out hcel HW3.out (Nx.drewN (Nx.refl _) q)⟩
          clear NEXT hL hgood hcel hb hk hkb hlb hlr hlp hlg hap hhx e1 e2 e3 hr
          gi_wp2_with fail
          refine region_quiet (by kernel_rfl) (noDefer_of (by kernel_rfl)) (by kernel_rfl) ?_
          repeat (gi_big_quiet_step (fail))
          refine wpQuietIn_nil ?_
          rintro _ ⟨nq, rfl⟩
          gi_wp2_with fail
          exact ⟨(FIN.out nq).1, rfl, (FIN.out nq).2.2⟩
  case done =>
    rintro D G' W hD ⟨hL, hgood⟩ hdn hK
    have e := RES.out
    rw [HFL.out, List.take_length] at hL
    rw [HFL.out] at hgood
    rw [hgood.all] at e
    rw [← e] at hL
    obtain ⟨H, hla, _, _⟩ := hL.ex
    obtain ⟨v, hv, hrow⟩ := hla.row
    have bk : Bk w.heap.size W (W.putObj D (.deferred none)) := Bk.put _ hK rfl (by have := HW3.out; omega)
    have NXW : Hid (Nx w (W.putObj D (.deferred none))) := Below.trans hL.nx (bk.below (Nat.le_refl _) hL.nx.size)
    have ROW : Hid (Row (W.putObj D (.deferred none)) w.heap.size v ((range frm to most t.pairs).map prOf)) := row_of_blk hrow fun j hj => bk.blk (by
      obtain ⟨_, cs, hc⟩ := own_row_blk' hrow hj
      exact hc.cel)
    clear hL hgood hdn hla hrow e bk
    gi_wp2_with fail
    refine ⟨by simp, .inl ⟨_, _, rfl, run_takeDeferred hK, ?_⟩⟩
    exact ⟨_, results_tmp (t := 8) rfl _ _ _, v, rfl, ROW.out, NXW.out⟩
  case stop =>
    rintro D c i G' W hD ⟨rfl, hL⟩ hK
    rw [← RES.out] at hL
    obtain ⟨H, hla, _, _⟩ := hL.ex
    obtain ⟨v, hv, hrow⟩ := hla.row
    have bk : Bk w.heap.size W (W.putObj D (.deferred none)) := Bk.put _ hK rfl (by have := HW3.out; omega)
    have NXW : Hid (Nx w (W.putObj D (.deferred none))) := Below.trans hL.nx (bk.below (Nat.le_refl _) hL.nx.size)
    have ROW : Hid (Row (W.putObj D (.deferred none)) w.heap.size v ((range frm to most t.pairs).map prOf)) := row_of_blk hrow fun j hj => bk.blk (by
      obtain ⟨_, cs, hc⟩ := own_row_blk' hrow hj
      exact hc.cel)
    clear hL hla hrow bk
    gi_wp2_with fail
    refine ⟨by simp, .inl ⟨_, _, rfl, run_takeDeferred hK, ?_⟩⟩
    exact ⟨_, results_tmp (t := 8) rfl _ _ _, v, rfl, ROW.out, NXW.out⟩
end Go.Proofs.Ytekcphpeaoaaaaa

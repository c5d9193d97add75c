/- Package table: Put, Cut and Place, in terms of the pairs. -/
import Derived.Test.YtekcphpeaoaaaaaTbTab
namespace Go.Proofs.Ytekcphpeaoaaaaa
open Go.RowKit Go.Shelf
set_option linter.unusedVariables false

attribute [local go_sem] Oper.semAt_some

set_option maxRecDepth 100000 in
theorem tput_any (w : World) (T' : Value) (xs : List KV) (key val : Str) (h : Tb w T' xs) (hn : xs.length < 100000000) (j1 : key.length ≤ 100000) (j2 : val.length ≤ 100000) :
    Calls Try.prog 10 #[T', .string (S key), .string (S val)] w (Ret fun r w' => Tb w' r (ins key val xs) ∧ Nx w w') := by
  obtain ⟨u, t, rfl, hin, hh, rfl, hs⟩ := h
  obtain ⟨W, hW⟩ : ∃ W, (w.alloc (.cells #[.pointer u] 24)).alloc (.cells #[.pointer none] 24) = W := ⟨_, rfl⟩
  have n1 : Nx w W := by rw [← hW]; exact ((Nx.refl w).alloc _).alloc _
  have hb0 : BlkIs W w.heap.size 24 #[.pointer u] := by rw [← hW]; exact (box_blk w (.pointer u) 24).nx ((Nx.refl _).alloc _)
  have hb1 : BlkIs W (w.heap.size + 1) 24 #[.pointer none] := by
    rw [← hW]
    have := box_blk (w.alloc (.cells #[.pointer u] 24)) (.pointer none) 24
    rwa [World.size_alloc] at this
  have c0 : W.cell? ⟨w.heap.size, 0, none⟩ = some (.pointer u) := by rw [hb0.cell]; rfl
  have e := T.size_eq t
  have LF := Lib.hid (leaf_any W.drew key val j1 j2)
  have PT : Hid (∀ W1 bl, Nx W W1 → BlkIs W1 bl 66 (nodeC key val 1 (.pointer none) (.pointer none)) → Calls Try.prog 40 #[.pointer u, .pointer (some ⟨bl, 0, none⟩)] W1 (Ret fun v' w' => In0 w' v' (t.put key val) ∧ Nx W1 w')) := fun W1 bl hn1 hb =>
    put_any key val j1 j2 bl t W1 _ _ ((hin.nx n1).nx hn1) hb (by omega)
  have KP : Hid (∀ W1, Nx W W1 → W1.cell? ⟨w.heap.size, 0, none⟩ = some (.pointer u) ∧ W1.cell? ⟨w.heap.size + 1, 0, none⟩ = some (.pointer none) ∧ W1.frozen? ⟨w.heap.size + 1, 0, none⟩ = false) := fun W1 h1 =>
    ⟨by rw [(hb0.nx h1).cell]; rfl, by rw [(hb1.nx h1).cell]; rfl, (hb1.nx h1).frozen 0⟩
  have KS : Hid (∀ W1 v, Nx W W1 → (W1.setCell ⟨w.heap.size + 1, 0, none⟩ v).cell? ⟨w.heap.size, 0, none⟩ = some (.pointer u)) := fun W1 v h1 => by
    rw [((hb0.nx h1).chd (Chd.set W1 (w.heap.size + 1) 0 v) (by omega)).cell]; rfl
  have FIN : Hid (∀ u' w', In0 w' (.pointer u') (t.put key val) → Nx W w' → BlkIs (w'.setCell ⟨w.heap.size + 1, 0, none⟩ (.pointer u')) (w.heap.size + 1) 24 #[.pointer u'] ∧ Tb (w'.setCell ⟨w.heap.size + 1, 0, none⟩ (.pointer u')) (.agg #[.pointer u']) (ins key val t.pairs) ∧ Nx w (w'.setCell ⟨w.heap.size + 1, 0, none⟩ (.pointer u'))) := fun u' w' hi' hn' =>
    ⟨(hb1.nx hn').set 0 _, ⟨u', t.put key val, rfl, hi'.set (hb1.nx hn') (by decide) 0 _, put_heap key val t hs hh, put_pairs key val t hs hh, ins_srt hs⟩, (n1.trans hn').set (w.heap.size + 1) 0 (.pointer u') (by omega)⟩
  have HW := Lib.hid hW
  clear hin n1 hs hb0 hb1 hh e
  go_enter Try.func10, Try.ntmps10
  go_wp2_with fail
  go_region_held3 (fun W1 => W1.cell? ⟨w.heap.size, 0, none⟩ = some (.pointer u))
    (first | exact KS.out _ _ N3 | exact (KP.out _ N3).1 | exact (KP.out _ N2).1 | go_keep)
    ((first
      | (go_at_call_of 41 key; refine LF.out.mono ?_; rintro e w2 ⟨v2, rfl, hin2, hn2⟩; obtain ⟨bl, pl, pr, rfl, hb2, hk2, e1, e2, k2⟩ := hin2; obtain rfl := e1; obtain rfl := e2; have N2 : Nx W w2 := Nx.trans (Nx.drew (Nx.refl W)) hn2; clear hn2 k2)
      | (go_at_call_of 40 u; refine (PT.out _ _ N2 hk2).mono ?_; rintro e w3 ⟨v3, rfl, hin3, hn3⟩; obtain ⟨u3, rfl⟩ := hin3.ptr; have N3 : Nx W w3 := N2.trans hn3; obtain ⟨q1, q2, q3⟩ := KP.out _ N3; obtain ⟨g1, g2⟩ := FIN.out u3 w3 hin3 N3; have G1 := Lib.hid g1; have G2 := Lib.hid g2; clear hin3 g1 g2)))
  clear q1 q2 q3
  go_wp2_with fail
  refine bodyPost_ret (results_cell_row rfl _ _ (w.heap.size + 1) 24 #[.pointer u3] (0, 0) _ rfl G1.out Try.underlying24 rfl (by kernel_rfl)) rfl ?_
  exact ⟨_, rfl, G2.out⟩

/-- Two results in cells. -/
theorem results_cells2 {P : Program} {fn : Func} {p q : Tmp} {ty ty2 : TypeId} (h : fn.results = #[.cell p ty, .cell q ty2]) (tmps : Array Value) (w : World) (g g2 : Addr) (v v2 : Value)
    (hp : tmps.getD p undef = .pointer (some g)) (hq : tmps.getD q undef = .pointer (some g2)) (h1 : (loadVar ty g).run P w = .ok v w) (h2 : (loadVar ty2 g2).run P w = .ok v2 w) :
    (results fn tmps).run P w = .ok (.tuple #[v, v2]) w := by
  have hp' : tmps[p]?.getD undef = .pointer (some g) := by simpa using hp
  have hq' : tmps[q]?.getD undef = .pointer (some g2) := by simpa using hq
  simp [results, h, hp', hq', asAddr, h1, h2]
set_option maxRecDepth 100000 in
theorem tcut_any (w : World) (T' : Value) (xs : List KV) (key : Str) (h : Tb w T' xs) (hn : xs.length ≤ 100000000) :
    Calls Try.prog 20 #[T', .string (S key)] w (Ret2 fun a b w' => Tb w' a (xs.take (place key xs)) ∧ Tb w' b (xs.drop (place key xs)) ∧ Nx w w') := by
  obtain ⟨u, t, rfl, hin, hh, rfl, hs⟩ := h
  obtain ⟨W, hW⟩ : ∃ W, ((w.alloc (.cells #[.pointer u] 24)).alloc (.cells #[.pointer none] 24)).alloc (.cells #[.pointer none] 24) = W := ⟨_, rfl⟩
  have n1 : Nx w W := by rw [← hW]; exact (((Nx.refl w).alloc _).alloc _).alloc _
  have hb : BlkIs W w.heap.size 24 #[.pointer u] ∧ BlkIs W (w.heap.size + 1) 24 #[.pointer none] ∧ BlkIs W (w.heap.size + 1 + 1) 24 #[.pointer none] := by
    rw [← hW]
    have a1 := box_blk w (.pointer u) 24
    have a2 := box_blk (w.alloc (.cells #[.pointer u] 24)) (.pointer none) 24
    have a3 := box_blk ((w.alloc (.cells #[.pointer u] 24)).alloc (.cells #[.pointer none] 24)) (.pointer none) 24
    simp only [World.size_alloc] at a2 a3
    exact ⟨(a1.nx ((Nx.refl _).alloc _)).nx ((Nx.refl _).alloc _), a2.nx ((Nx.refl _).alloc _), a3⟩
  obtain ⟨hb0, hb1, hb2⟩ := hb
  have c0 : W.cell? ⟨w.heap.size, 0, none⟩ = some (.pointer u) := by rw [hb0.cell]; rfl
  have e := T.size_eq t
  have CT := Lib.hid (cut_any key t W _ _ (hin.nx n1) (by omega))
  obtain ⟨p1, p2⟩ := cut_pairs key t hs
  obtain ⟨q1, q2⟩ := cut_heap key t hs hh
  have KP : Hid (∀ W1, Nx W W1 → W1.cell? ⟨w.heap.size + 1, 0, none⟩ = some (.pointer none) ∧ W1.frozen? ⟨w.heap.size + 1, 0, none⟩ = false ∧ W1.cell? ⟨w.heap.size + 1 + 1, 0, none⟩ = some (.pointer none) ∧ W1.frozen? ⟨w.heap.size + 1 + 1, 0, none⟩ = false) := fun W1 h1 =>
    ⟨by rw [(hb1.nx h1).cell]; rfl, (hb1.nx h1).frozen 0, by rw [(hb2.nx h1).cell]; rfl, (hb2.nx h1).frozen 0⟩
  have FIN : Hid (∀ ua ub w', In0 w' (.pointer ua) (t.cut key).1 → In0 w' (.pointer ub) (t.cut key).2 → Nx W w' → BlkIs ((w'.setCell ⟨w.heap.size + 1, 0, none⟩ (.pointer ua)).setCell ⟨w.heap.size + 1 + 1, 0, none⟩ (.pointer ub)) (w.heap.size + 1) 24 #[.pointer ua] ∧ BlkIs ((w'.setCell ⟨w.heap.size + 1, 0, none⟩ (.pointer ua)).setCell ⟨w.heap.size + 1 + 1, 0, none⟩ (.pointer ub)) (w.heap.size + 1 + 1) 24 #[.pointer ub] ∧
      Tb ((w'.setCell ⟨w.heap.size + 1, 0, none⟩ (.pointer ua)).setCell ⟨w.heap.size + 1 + 1, 0, none⟩ (.pointer ub)) (.agg #[.pointer ua]) (t.pairs.take (place key t.pairs)) ∧ Tb ((w'.setCell ⟨w.heap.size + 1, 0, none⟩ (.pointer ua)).setCell ⟨w.heap.size + 1 + 1, 0, none⟩ (.pointer ub)) (.agg #[.pointer ub]) (t.pairs.drop (place key t.pairs)) ∧
      Nx w ((w'.setCell ⟨w.heap.size + 1, 0, none⟩ (.pointer ua)).setCell ⟨w.heap.size + 1 + 1, 0, none⟩ (.pointer ub))) := fun ua ub w' ha hb' hn' => by
    have b1 := hb1.nx hn'
    have b2 := hb2.nx hn'
    have b1' : BlkIs (w'.setCell ⟨w.heap.size + 1, 0, none⟩ (.pointer ua)) (w.heap.size + 1) 24 #[.pointer ua] := b1.set 0 _
    have b2' := b2.chd (Chd.set w' (w.heap.size + 1) 0 (.pointer ua)) (by omega)
    refine ⟨b1'.chd (Chd.set _ (w.heap.size + 1 + 1) 0 _) (by omega), b2'.set 0 _, ⟨ua, _, rfl, (ha.set b1 (by decide) 0 _).set b2' (by decide) 0 _, q1, p1, hs.take _⟩, ⟨ub, _, rfl, (hb'.set b1 (by decide) 0 _).set b2' (by decide) 0 _, q2, p2, hs.drop _⟩, ((n1.trans hn').set _ 0 _ (by omega)).set _ 0 _ (by omega)⟩
  have HW := Lib.hid hW
  clear hin n1 hs hb0 hb1 hb2 hh e p1 p2 q1 q2
  go_enter Try.func20, Try.ntmps20
  go_wp2_with fail
  refine CT.out.mono ?_
  rintro e w' ⟨a, b, rfl, ha, hb, hn'⟩
  obtain ⟨ua, rfl⟩ := ha.ptr
  obtain ⟨ub, rfl⟩ := hb.ptr
  obtain ⟨k1, k2, k3, k4⟩ := KP.out _ hn'
  obtain ⟨g1, g2, g3⟩ := FIN.out ua ub w' ha hb hn'
  have G1 := Lib.hid g1
  have G2 := Lib.hid g2
  have G3 := Lib.hid g3
  clear CT ha hb hn' g1 g2 g3
  go_wp2_with fail
  refine bodyPost_ret (results_cells2 rfl _ _ ⟨w.heap.size + 1, 0, none⟩ ⟨w.heap.size + 1 + 1, 0, none⟩ (.agg #[.pointer ua]) (.agg #[.pointer ub]) rfl rfl (run_loadVar_row _ _ _ _ _ _ _ G1.out Try.underlying24 rfl (by kernel_rfl)) (run_loadVar_row _ _ _ _ _ _ _ G2.out Try.underlying24 rfl (by kernel_rfl))) rfl ?_
  exact ⟨_, _, rfl, G3.out⟩

set_option maxRecDepth 100000 in
theorem tplace_any (w : World) (T' : Value) (xs : List KV) (key : Str) (h : Tb w T' xs) (hn : xs.length ≤ 100000000) :
    Calls Try.prog 25 #[T', .string (S key)] w fun e w' => e = .returned (.int .i64 (place key xs : Nat)) ∧ Nx w w' := by
  obtain ⟨u, t, rfl, hin, _, rfl, hs⟩ := h
  obtain ⟨W, hW⟩ : ∃ W, w.alloc (.cells #[.pointer u] 24) = W := ⟨_, rfl⟩
  have n1 : Nx w W := by rw [← hW]; exact (Nx.refl w).alloc _
  have hb0 : BlkIs W w.heap.size 24 #[.pointer u] := by rw [← hW]; exact box_blk w (.pointer u) 24
  have c0 : W.cell? ⟨w.heap.size, 0, none⟩ = some (.pointer u) := by rw [hb0.cell]; rfl
  have e := T.size_eq t
  have N1 := Lib.hid n1
  have H0 : Hid (In0 W (.pointer u) t ∧ Srt t.pairs ∧ t.size ≤ 100000000) := ⟨hin.nx n1, hs, by omega⟩
  clear hin n1 hs hb0 e
  go_enter Try.func25, Try.ntmps25
  go_wp2_with fail
  go_loopg [5, 6] t.size (fun n p5 p6 wr => ∃ (q : Option Addr) (t' : T) (acc : Nat), p6 = .pointer q ∧ p5 = .int .i64 (acc : Int) ∧ W = wr ∧ Hid (In0 W (.pointer q) t' ∧ Srt t'.pairs ∧ acc + place key t'.pairs = place key t.pairs ∧ acc + t'.size ≤ t.size ∧ t'.size ≤ n))
  case atStart => exact ⟨u, t, 0, rfl, rfl, rfl, ⟨H0.out.1, H0.out.2.1, by omega, by omega, Nat.le_refl _⟩⟩
  case round =>
    obtain ⟨q, t', acc, rfl, rfl, rfl, hh⟩ := hrel
    cases t' with
    | nil =>
      obtain rfl : q = none := by have := hh.out.1; simpa [In] using this
      have e := hh.out.2.2.1
      have HE : Hid ((acc : Int) = (place key t.pairs : Nat)) := by rw [← e]; rfl
      clear e hh
      go_wp2
      go_ret
      exact ⟨by rw [HE.out]; rfl, N1.out⟩
    | nd l k x r =>
      obtain ⟨hin, hs, hpl, hac, hsz⟩ := hh.out
      obtain ⟨b, pl, pr, e, hb, hk, hl, hr, _⟩ := hin
      simp only [Value.pointer.injEq] at e
      subst e
      have c0' := (node_at hk).c0
      have c4 := (node_at hk).c4
      have c5 := (node_at hk).c5
      have hlt := S_lt k key
      obtain ⟨ul, rfl⟩ := hl.ptr
      obtain ⟨ur, rfl⟩ := hr.ptr
      have hmid := place_mid (k := key) (show Srt (l.pairs ++ (k, x) :: r.pairs) from hs)
      obtain ⟨s1, s2, s3, s4⟩ := srt_mid.1 (show Srt (l.pairs ++ (k, x) :: r.pairs) from hs)
      have h100 := H0.out.2.2
      have hls := T.size_eq l
      have hnd : (T.nd l k x r).size = l.size + 1 + r.size := rfl
      have CL := Lib.hid (count_any W _ _ _ hl)
      by_cases e2 : lt k key = true
      · rw [e2] at hlt
        rw [if_pos e2] at hmid
        have hw1 : IntKind.i64.wrap ((l.size : Int) + 1) = (l.size : Int) + 1 := IntWalk.i64_in _ (by omega)
        have hw2 : IntKind.i64.wrap ((acc : Int) + ((l.size : Int) + 1)) = (acc : Int) + ((l.size : Int) + 1) := IntWalk.i64_in _ (by omega)
        have NXT : Hid (r.size < gk ∧ (∃ acc' : Nat, (acc : Int) + ((l.size : Int) + 1) = (acc' : Int) ∧ Hid (In0 W (.pointer ur) r ∧ Srt r.pairs ∧ acc' + place key r.pairs = place key t.pairs ∧ acc' + r.size ≤ t.size ∧ r.size ≤ r.size))) := by
          refine ⟨by omega, acc + (l.size + 1), by push_cast; rfl, hr, s2, ?_, by omega, Nat.le_refl _⟩
          rw [← hpl]
          show _ = acc + place key (l.pairs ++ (k, x) :: r.pairs)
          rw [hmid]; omega
        clear hmid hpl hac hsz hk hl hr hs s1 s2 s3 s4 hh c0 h100 hnd hls
        go_wp2_with fail
        refine CL.out.mono ?_
        rintro e w' ⟨rfl, rfl⟩
        clear CL
        go_wp2
        go_roundg r.size
        case measure => exact NXT.out.1
        case rel => 
          obtain ⟨acc', h1, h2⟩ := NXT.out.2
          exact ⟨ur, r, acc', rfl, by rw [h1], rfl, h2⟩
      · have e2 : lt k key = false := by simpa using e2
        rw [e2] at hlt
        rw [if_neg (by simp [e2])] at hmid
        have NXT : Hid (l.size < gk ∧ Hid (In0 W (.pointer ul) l ∧ Srt l.pairs ∧ acc + place key l.pairs = place key t.pairs ∧ acc + l.size ≤ t.size ∧ l.size ≤ l.size)) := by
          refine ⟨by omega, hl, s1, ?_, by omega, Nat.le_refl _⟩
          rw [← hpl]
          show _ = acc + place key (l.pairs ++ (k, x) :: r.pairs)
          rw [hmid]
        clear hmid hpl hac hsz hk hl hr hs s1 s2 s3 s4 hh c0 h100 hnd hls CL
        go_wp2
        go_roundg l.size
        case measure => exact NXT.out.1
        case rel => exact ⟨ul, l, acc, rfl, rfl, rfl, NXT.out.2⟩
end Go.Proofs.Ytekcphpeaoaaaaa

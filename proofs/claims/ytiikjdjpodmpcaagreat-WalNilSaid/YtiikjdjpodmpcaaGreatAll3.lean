/- Texts of one proof, laid together: WiCat, WiEnc, WiSum, WiFrame, WiBackPure, WlScan, WlPure, WlMem, WlA, WlB, WlC, WlD, WlE, WlF. -/
import Derived.Test.YtiikjdjpodmpcaaGreatAll2
import Derived.RangeFuncNested
import Derived.RangeFuncBound
import Derived.RangeFuncCalls
import Derived.RangeFuncLeaves
import Derived.RangeFuncBox
import Derived.Shelf.Abstract
import Derived.Shelf.RegionOpen
import Derived.OwnWalkIn
import Derived.TacticsInMore
import Derived.LoopNIn
import Derived.LoopIn
import Derived.Sort.BigQuietIn
import Derived.Deep.RegionWith
import Derived.Deep.DeepCutAuto
import Derived.Test.YtiikjdjpodmpcaaGreatAll1
import Derived.Deep.RegionHeld3

/- Walks of package wire: concat, Number, Piece. -/
namespace Go.Proofs.YtiikjdjpodmpcaaGreat
open Go.RowKit

/-! ### Slices of slices of bytes -/
structure Part where
  A : Option Addr
  n : Nat
  c : Nat
  l : List UInt8
def total (ps : List Part) : Nat := (ps.map (·.n)).sum
def flat (ps : List Part) : List UInt8 := ps.flatMap (·.l)
/-- Block g has the parts' slice values, at off 0 on, and each part reads as its bytes, below block B. -/
structure PartsAt (w : World) (B g : Nat) (ps : List Part) : Prop where
  cells : ∀ j (h : j < ps.length), w.cell? ⟨g, j, none⟩ = some (.slice ps[j].A ps[j].n ps[j].c)
  byts : ∀ j (h : j < ps.length), Byt w B ps[j].A ps[j].n ps[j].c ps[j].l
theorem total_take (ps : List Part) (k : Nat) (h : k < ps.length) : total (ps.take (k + 1)) = total (ps.take k) + ps[k].n := by
  rw [List.take_succ_eq_append_getElem h, total, total, List.map_append, List.sum_append]
  rfl
theorem flat_take (ps : List Part) (k : Nat) (h : k < ps.length) : flat (ps.take (k + 1)) = flat (ps.take k) ++ ps[k].l := by
  rw [List.take_succ_eq_append_getElem h, flat, flat, List.flatMap_append]
  simp only [List.flatMap_cons, List.flatMap_nil, List.append_nil]
theorem total_le (ps : List Part) (k : Nat) : total (ps.take k) ≤ total ps := by
  have h : total ps = total (ps.take k) + total (ps.drop k) := by
    rw [total, total, total, ← List.sum_append, ← List.map_append, List.take_append_drop]
  omega
theorem PartsAt.keep {w w' : World} {B B' g : Nat} {ps : List Part} (h : PartsAt w B g ps) (hg : g < B') (hb : Below B' w w') (hB : B ≤ B') : PartsAt w' B g ps :=
  ⟨fun j hj => (hb.cell (p := ⟨g, j, none⟩) hg).trans (h.cells j hj), fun j hj => (h.byts j hj).below hb hB⟩
/-- The parts of a literal of two. -/
theorem PartsAt.two {w : World} {B : Nat} {A A' : Option Addr} {n c n' c' : Nat} {l l' : List UInt8} (t : TypeId) (h : Byt w B A n c l) (h' : Byt w B A' n' c' l') (hB : B ≤ w.heap.size) :
    PartsAt (w.alloc (.cells #[.slice A n c, .slice A' n' c'] t)) B w.heap.size [⟨A, n, c, l⟩, ⟨A', n', c', l'⟩] := by
  refine ⟨fun j hj => ?_, fun j hj => ?_⟩
  · match j, hj with
    | 0, _ => simp
    | 1, _ => simp
  · match j, hj with
    | 0, _ => exact h.alloc hB _
    | 1, _ => exact h'.alloc hB _
theorem PartsAt.three {w : World} {B : Nat} {A A' A2 : Option Addr} {n c n' c' n2 c2 : Nat} {l l' l2 : List UInt8} (t : TypeId) (h : Byt w B A n c l) (h' : Byt w B A' n' c' l') (h2 : Byt w B A2 n2 c2 l2) (hB : B ≤ w.heap.size) :
    PartsAt (w.alloc (.cells #[.slice A n c, .slice A' n' c', .slice A2 n2 c2] t)) B w.heap.size [⟨A, n, c, l⟩, ⟨A', n', c', l'⟩, ⟨A2, n2, c2, l2⟩] := by
  refine ⟨fun j hj => ?_, fun j hj => ?_⟩
  · match j, hj with
    | 0, _ => simp
    | 1, _ => simp
    | 2, _ => simp
  · match j, hj with
    | 0, _ => exact h.alloc hB _
    | 1, _ => exact h'.alloc hB _
    | 2, _ => exact h2.alloc hB _

/-- What a round of concat's second loop finds. -/
def CRel (w wr : World) (ps : List Part) (k : Nat) (A : Option Addr) (n c : Nat) : Prop :=
  Own wr w.heap.size A n c (flat (ps.take k)) ∧ Below w.heap.size w wr ∧ n ≤ total (ps.take k) ∧ total (ps.take k) ≤ n

theorem concat_any (w : World) (B g k kc : Nat) (ps : List Part) (hk : ps.length = k) (hB : B ≤ w.heap.size) (hg : g < w.heap.size) (hps : PartsAt w B g ps) (hk2 : k ≤ 65536) (ht : total ps ≤ 70368744177664) :
    Calls Tryz.prog 98 #[.slice (some ⟨g, 0, none⟩) k kc] w fun e w' => ∃ A n c, e = .returned (.slice A n c) ∧ Own w' w.heap.size A n c (flat ps) ∧ Below w.heap.size w w' := by
  obtain ⟨i0, hi0, hz0, hz1, hz2⟩ := info_parts byte_info
  have Hk := Lib.hid hk
  have Hz := Lib.hid (And.intro hi0 (And.intro hz0 (And.intro hz1 hz2)))
  clear hk hi0 hz0 hz1 hz2
  have Hps := Lib.hid hps
  clear hps
  go_enter Tryz.func98, Tryz.ntmps98
  go_wp2
  go_loop [3, 11] (fun s i => ∃ j : Nat, j ≤ k ∧ i = .int .i64 j ∧ s = .int .i64 (total (ps.take j))) (fun _ i => k - (intOf i).toNat)
  case atStart => exact ⟨0, Nat.zero_le _, rfl, rfl⟩
  case round =>
    obtain ⟨j, hj, rfl, rfl⟩ := hrel
    by_cases hlt : j < k
    · have hjl : j < ps.length := by rw [Hk.out]; exact hlt
      have hc := Hps.out.cells j hjl
      have hle := total_le ps (j + 1)
      have Ht := Lib.hid (total_take ps j hjl)
      have hle2 : total (ps.take j) + ps[j].n ≤ total ps := by rw [← Ht.out]; exact hle
      clear hle
      go_wp2
      go_round
      case rel => exact ⟨j + 1, by omega, by go_num, by rw [Ht.out]; go_num⟩
      case measure => simp [intOf]; omega
    · have hjk : j = k := by omega
      have Hf : Hid (total (ps.take j) = total ps) := by
        unfold Hid
        rw [List.take_of_length_le (by rw [Hk.out]; omega)]
      have hf1 : total (ps.take j) ≤ total ps := by rw [Hf.out]; exact Nat.le_refl _
      clear hjk
      go_wp2_with (at_make; refine wpList_make_own _ rfl _ _ 22 rfl w.heap.size 5 i0 (.int .u8 0) 1 Tryz.underlying22 Hz.out.1 Hz.out.2.1 Hz.out.2.2.1 .i64 .i64 _ (total (ps.take j)) rfl rfl rfl (by rw [Hz.out.2.2.2]; omega) (by unfold maxLen; omega) (Nat.le_refl _) ?_; intro w0 hown0 hgrow0)
      have hcr : CRel w w0 ps 0 (some ⟨w.heap.size, 0, none⟩) 0 (total (ps.take j)) := ⟨hown0, (Below.refl _ _).grown hgrow0 (Nat.le_refl _) (by simp), by simp [total], by simp [total]⟩
      clear hown0 hgrow0
      go_loopw [6, 24] (fun v i wr => ∃ (q : Nat) (A : Option Addr) (n c : Nat), q ≤ k ∧ i = .int .i64 q ∧ v = .slice A n c ∧ CRel w wr ps q A n c) (fun _ i _ => k - (intOf i).toNat)
      case atStart => exact ⟨0, _, _, _, Nat.zero_le _, rfl, rfl, hcr⟩
      case round =>
        obtain ⟨q, A, n, c, hq, rfl, rfl, hown, hb, hn1, hn2⟩ := hrel
        by_cases hltq : q < k
        · have hql : q < ps.length := by rw [Hk.out]; exact hltq
          have hc := (Hps.out.keep hg hb hB).cells q hql
          have hby := (Hps.out.keep hg hb hB).byts q hql
          have hle := total_le ps (q + 1)
          have Ht := Lib.hid (total_take ps q hql)
          have hle2 : total (ps.take q) + ps[q].n ≤ total ps := by rw [← Ht.out]; exact hle
          have Hfl := Lib.hid (flat_take ps q hql)
          clear hle
          go_wp2_with (at_builtin; refine wpList_byte_append rfl (.tmp 28) (.tmp 29) rfl w.heap.size A n c _ rfl hown B _ _ _ _ rfl hby (by omega) hb.size ?_; intro A2 c2 w2 hown2 hgr2 hat2)
          go_roundw
          case rel => exact ⟨q + 1, A2, _, c2, by omega, by go_num, rfl, by rw [Hfl.out]; exact hown2, hb.grown hgr2 hb.size fun k hk => (World.ownsRow.lt hown k hk).1, by rw [Ht.out]; omega, by rw [Ht.out]; omega⟩
          case measure => simp [intOf]; omega
        · have Hf2 : Hid (ps.take q = ps) := by
            unfold Hid
            rw [List.take_of_length_le (by rw [Hk.out]; omega)]
          go_wp2
          go_ret
          exact ⟨A, n, c, rfl, by rw [Hf2.out] at hown; exact hown, hb⟩
end Go.Proofs.YtiikjdjpodmpcaaGreat

/- Walks of package wire: Number, Piece. -/
namespace Go.Proofs.YtiikjdjpodmpcaaGreat
open Go.RowKit

theorem Below.step {w w1 w2 : World} {B1 : Nat} (h : Below w.heap.size w w1) (h2 : Below B1 w1 w2) (hB : w.heap.size ≤ B1) : Below w.heap.size w w2 := h.trans (h2.mono hB)

end Go.Proofs.YtiikjdjpodmpcaaGreat

/- Walks of package wire: Sum, which ranges over slices.Chunk. -/
namespace Go.Proofs.YtiikjdjpodmpcaaGreat
open Go.RowKit Go.Shelf
set_option linter.unusedVariables false

attribute [local go_sem] Oper.semAt_some

/-- The k-th chunk of st bytes (the last one has fewer; behind it there are none). -/
def chunkAt (st k : Nat) : Nat := st * k
def chunkLen (st len k : Nat) : Nat := min st (len - st * k)
def chunkV (st b off len k : Nat) : Value := .slice (some ⟨b, off + chunkAt st k, none⟩) (chunkLen st len k) (chunkLen st len k)
/-- How many chunks there are. -/
def chunks (st len : Nat) : Nat := (len + (st - 1)) / st
theorem chunkAt_succ (st k : Nat) : chunkAt st (k + 1) = chunkAt st k + st := by simp [chunkAt, Nat.mul_add]
theorem chunks_of (st len k : Nat) (hs : 1 ≤ st) (h1 : k ≤ chunks st len) (h2 : len ≤ chunkAt st k) : k = chunks st len := by
  unfold chunks chunkAt at *
  refine Nat.le_antisymm h1 ?_
  have h3 : (len + (st - 1)) / st < k + 1 := by
    rw [Nat.div_lt_iff_lt_mul (by omega), Nat.mul_comm, Nat.mul_add]
    omega
  omega
theorem chunks_lt (st len k : Nat) (hs : 1 ≤ st) (h2 : chunkAt st k < len) : k < chunks st len := by
  unfold chunks chunkAt at *
  rw [Nat.lt_iff_add_one_le, Nat.le_div_iff_mul_le (by omega), Nat.add_mul, Nat.mul_comm]
  omega
theorem chunkLen_full (st len k : Nat) (h : chunkAt st k + st ≤ len) : chunkLen st len k = st := by unfold chunkLen chunkAt at *; omega
theorem chunkLen_rest (st len k : Nat) (h : len ≤ chunkAt st k + st) : chunkLen st len k = len - chunkAt st k := by unfold chunkLen chunkAt at *; omega

/-- What the iterator reads between two rounds: its two boxes. -/
def KB2 (Bs Bn : Nat) (W W' : World) : Prop := W'.cell? ⟨Bs, 0, none⟩ = W.cell? ⟨Bs, 0, none⟩ ∧ W'.cell? ⟨Bn, 0, none⟩ = W.cell? ⟨Bn, 0, none⟩
theorem KB2.refl (Bs Bn : Nat) (W : World) : KB2 Bs Bn W W := ⟨rfl, rfl⟩
theorem KB2.trans {Bs Bn : Nat} {A B C : World} (h : KB2 Bs Bn A B) (k : KB2 Bs Bn B C) : KB2 Bs Bn A C := ⟨k.1.trans h.1, k.2.trans h.2⟩
theorem KB2.drewN {Bs Bn : Nat} {A B : World} (h : KB2 Bs Bn A B) (q : Nat) : KB2 Bs Bn A (B.drewN q) := h
theorem KB2.putObj {Bs Bn : Nat} (W : World) (l : Nat) (o' : Obj) (h1 : Bs ≠ l) (h2 : Bn ≠ l) : KB2 Bs Bn W (W.putObj l o') :=
  ⟨World.cell?_of_block (World.putObj_heap_other h1), World.cell?_of_block (World.putObj_heap_other h2)⟩
theorem KB2.setCell {Bs Bn : Nat} (W : World) (p : Addr) (u : Value) (h1 : Bs ≠ p.block) (h2 : Bn ≠ p.block) : KB2 Bs Bn W (W.setCell p u) :=
  ⟨World.cell?_of_block (Below.heap_setCell W p u Bs h1), World.cell?_of_block (Below.heap_setCell W p u Bn h2)⟩
theorem below_drewN {B : Nat} {a w : World} (h : Below B a w) (q : Nat) : Below B a (w.drewN q) := ⟨h.os, h.tape, h.output, h.size, h.block⟩

set_option maxRecDepth 100000 in
set_option maxHeartbeats 2000000 in
theorem chunk1_in (F : Fence) (n : Nat) (hf : F.fn 138) (hro : F.round = none) (hn : 1 ≤ n) (st l Bs Bn b off len cap : Nat) (hst : 1 ≤ st) (hst2 : st ≤ 1099511627776) (hlc : len ≤ cap) (hlen : len ≤ 1099511627776) (hcap : cap ≤ 9223372036854775807) (J Jx : List Nat → World → Prop) (hJ : ∀ s W q, J s W → J s (W.drewN q))
    (hY : ∀ pre k W, J pre W → pre.length < chunks st len → YieldAt F (n - 1) Tryz.prog l #[chunkV st b off len k] W fun e W' =>
      (e = .returned (.bool true) ∧ J (pre ++ [k]) W' ∧ KB2 Bs Bn W W') ∨ (e = .returned (.bool false) ∧ Jx (pre ++ [k]) W'))
    (W : World) (hBs : W.cell? ⟨Bs, 0, none⟩ = some (.slice (some ⟨b, off, none⟩) len cap)) (hBn : W.cell? ⟨Bn, 0, none⟩ = some (.int .i64 st)) (h0 : J [] W) :
    CallsIn F n Tryz.prog 138 #[.func (.yield l) #[] #[], .pointer (some ⟨Bs, 0, none⟩), .pointer (some ⟨Bn, 0, none⟩)] W fun e W' => (∃ v, e = .returned v) ∧
      ((∃ ys, ys = List.range (chunks st len) ∧ J ys W') ∨ (∃ pre, Jx pre W')) := by
  refine callsIn_of_wp Tryz.func138 rfl hf ?_ hro
  simp only [Tryz.ntmps138, List.size_toArray, List.length_cons, List.length_nil, Nat.reduceAdd, Nat.reduceSub, Array.replicate_succ, Array.replicate_zero, List.push_toArray, List.append_toArray, List.nil_append, List.cons_append]
  gi_wp2
  gi_loopw [4] (fun i wr => ∃ k : Nat, k ≤ chunks st len ∧ i = .int .i64 (chunkAt st k : Nat) ∧ J (List.range k) wr ∧ KB2 Bs Bn W wr)
    (fun i _ => 1099511627776 + len - (intOf i).toNat)
  case atStart => exact ⟨0, Nat.zero_le _, by simp [chunkAt], h0, KB2.refl _ _ _⟩
  case round =>
    obtain ⟨k, hk, rfl, hJs, hnx⟩ := hrel
    have hcs : wr.cell? ⟨Bs, 0, none⟩ = some (.slice (some ⟨b, off, none⟩) len cap) := hnx.1.trans hBs
    have hcn : wr.cell? ⟨Bn, 0, none⟩ = some (.int .i64 st) := hnx.2.trans hBn
    by_cases hlt : chunkAt st k < len
    · have Hs := Lib.hid (chunkAt_succ st k)
      have hk1 := chunks_lt st len k hst hlt
      have hY2 := fun q => hY _ k (wr.drewN q) (hJ _ _ q hJs) (by rw [List.length_range]; exact hk1)
      unfold chunkV at hY2
      by_cases hfull : chunkAt st k + st ≤ len
      · rw [chunkLen_full st len k hfull] at hY2
        generalize hi : chunkAt st k = i at *
        have Hi := Lib.hid hi
        have HY := Lib.hid hY2
        clear hi hY2
        gi_wp2
        refine wpIn_region_quiet_lit hro (by kernel_rfl) (by kernel_rfl) ?_
        repeat (gi_big_quiet_step (fail))
        refine wpQuietIn_nil ?_
        rintro _ ⟨nq, rfl⟩
        obtain ⟨fn, tmps, assign, body, hy, hR⟩ := HY.out nq
        gi_wp2
        refine hR.mono ?_
        rintro e W3 (⟨rfl, hJ3, hk3⟩ | ⟨rfl, hJx3⟩)
        · have hcn3 : W3.cell? ⟨Bn, 0, none⟩ = some (.int .i64 st) := hk3.2.trans hcn
          gi_wp2
          go_roundw
          case rel => exact ⟨k + 1, by omega, by rw [Hs.out]; go_num, by rw [List.range_succ]; exact hJ3, (hnx.drewN nq).trans hk3⟩
          case measure => simp [intOf]; omega
        · gi_wp2
          refine bodyPost_ret (results_none rfl _ _ _) rfl ?_
          exact ⟨⟨_, rfl⟩, .inr ⟨_, hJx3⟩⟩
      · rw [chunkLen_rest st len k (by omega)] at hY2
        generalize hi : chunkAt st k = i at *
        have Hi := Lib.hid hi
        have HY := Lib.hid hY2
        clear hi hY2
        have em : ((len - i : Nat) : Int) = (len : Int) - i := by omega
        have Hm := Lib.hid em
        clear em
        gi_wp2
        refine wpIn_region_quiet_lit hro (by kernel_rfl) (by kernel_rfl) ?_
        repeat (gi_big_quiet_step (fail))
        refine wpQuietIn_nil ?_
        rintro _ ⟨nq, rfl⟩
        obtain ⟨fn, tmps, assign, body, hy, hR⟩ := HY.out nq
        gi_wp2
        refine hR.mono ?_
        rintro e W3 (⟨rfl, hJ3, hk3⟩ | ⟨rfl, hJx3⟩)
        · have hcn3 : W3.cell? ⟨Bn, 0, none⟩ = some (.int .i64 st) := hk3.2.trans hcn
          gi_wp2
          go_roundw
          case rel => exact ⟨k + 1, by omega, by rw [Hs.out]; go_num, by rw [List.range_succ]; exact hJ3, (hnx.drewN nq).trans hk3⟩
          case measure => simp [intOf]; omega
        · gi_wp2
          refine bodyPost_ret (results_none rfl _ _ _) rfl ?_
          exact ⟨⟨_, rfl⟩, .inr ⟨_, hJx3⟩⟩
    · have Hk := Lib.hid (chunks_of st len k hst hk (by omega))
      generalize hi : chunkAt st k = i at *
      clear hi
      gi_wp2
      go_end0
      exact ⟨⟨_, rfl⟩, .inl ⟨_, by rw [← Hk.out], hJs⟩⟩

set_option maxRecDepth 100000 in
set_option maxHeartbeats 1000000 in
/-- .. at a slice of no bytes, nil or not: no round. -/
theorem chunk1_nil_in (F : Fence) (n : Nat) (hf : F.fn 138) (hro : F.round = none) (l Bs Bn : Nat) (A : Option Addr) (cap : Nat) (J : List Nat → World → Prop) (W : World) (hBs : W.cell? ⟨Bs, 0, none⟩ = some (.slice A 0 cap)) (h0 : J [] W) :
    CallsIn F n Tryz.prog 138 #[.func (.yield l) #[] #[], .pointer (some ⟨Bs, 0, none⟩), .pointer (some ⟨Bn, 0, none⟩)] W fun e W' => (∃ v, e = .returned v) ∧ J [] W' := by
  refine callsIn_of_wp Tryz.func138 rfl hf ?_ hro
  simp only [Tryz.ntmps138, List.size_toArray, List.length_cons, List.length_nil, Nat.reduceAdd, Nat.reduceSub, Array.replicate_succ, Array.replicate_zero, List.push_toArray, List.append_toArray, List.nil_append, List.cons_append]
  gi_wp2
  gi_loopw [4] (fun i wr => i = .int .i64 0 ∧ wr = W) (fun _ _ => 0)
  case atStart => exact ⟨rfl, rfl⟩
  case round =>
    obtain ⟨rfl, rfl⟩ := hrel
    gi_wp2
    go_end0
    exact ⟨⟨_, rfl⟩, h0⟩

set_option maxHeartbeats 1000000 in
/-- slices.Chunk(s, st): both are boxed; the function value captures the boxes. -/
theorem chunk_in (F : Fence) (n : Nat) (hf : F.fn 113) (hro : F.round = none) (A : Option Addr) (len cap : Nat) (w : World) :
    CallsIn F n Tryz.prog 113 #[.slice A len cap, .int .i64 65536] w fun e w' => e = .returned (.func (.func 138) #[] #[.pointer (some ⟨w.heap.size, 0, none⟩), .pointer (some ⟨w.heap.size + 1, 0, none⟩)]) ∧
      w' = (w.alloc (.cells #[.slice A len cap] 22)).alloc (.cells #[.int .i64 65536] 3) := by
  refine callsIn_of_wp Tryz.func113 rfl hf ?_ hro
  simp only [Tryz.ntmps113, List.size_toArray, List.length_cons, List.length_nil, Nat.reduceAdd, Nat.reduceSub, Array.replicate_succ, Array.replicate_zero, List.push_toArray, List.append_toArray, List.nil_append, List.cons_append]
  gi_wp2
  go_ret
  exact ⟨rfl, rfl⟩

/-- A contract over a fixed fence that stops nowhere. -/
theorem chunk_stops (F : Fence) (n : Nat) (hf : F.fn 138) (hro : F.round = none) (hn : 1 ≤ n) (st Bs Bn b off len cap : Nat) (hst : 1 ≤ st) (hst2 : st ≤ 1099511627776) (hlc : len ≤ cap) (hlen : len ≤ 1099511627776) (hcap : cap ≤ 9223372036854775807) (w : World) (hBs' : Bs < w.heap.size) (hBn' : Bn < w.heap.size)
    (hBs : w.cell? ⟨Bs, 0, none⟩ = some (.slice (some ⟨b, off, none⟩) len cap)) (hBn : w.cell? ⟨Bn, 0, none⟩ = some (.int .i64 st)) :
    SeqStopsK F n Tryz.prog 138 #[.pointer (some ⟨Bs, 0, none⟩), .pointer (some ⟨Bn, 0, none⟩)] (fun k : Nat => #[chunkV st b off len k]) (KB2 Bs Bn) (fun ys => ys = List.range (chunks st len)) (fun _ => True) (chunks st len) w := fun l J Jx W hW hJ _ hY h0 => by
  have hb1 := hW.cell (p := ⟨Bs, 0, none⟩) hBs'
  have hb2 := hW.cell (p := ⟨Bn, 0, none⟩) hBn'
  refine (chunk1_in F n hf hro hn st l Bs Bn b off len cap hst hst2 hlc hlen hcap J Jx (fun s W q hs => hJ s W _ none hs ⟨rfl, rfl, rfl, Nat.le_refl _, fun _ _ _ => rfl⟩ (fun r e => by cases e)) hY W (hb1.trans hBs) (hb2.trans hBn) h0).mono ?_
  rintro e W' ⟨he, ⟨ys, rfl, hj⟩ | ⟨pre, hj⟩⟩
  · exact ⟨he, .inl ⟨_, rfl, hj⟩⟩
  · exact ⟨he, .inr ⟨_, trivial, hj⟩⟩
theorem chunk_stops_nil (F : Fence) (n : Nat) (hf : F.fn 138) (hro : F.round = none) (st Bs Bn b off : Nat) (A : Option Addr) (cap : Nat) (w : World) (hst : 1 ≤ st) (hBs' : Bs < w.heap.size)
    (hBs : w.cell? ⟨Bs, 0, none⟩ = some (.slice A 0 cap)) :
    SeqStopsK F n Tryz.prog 138 #[.pointer (some ⟨Bs, 0, none⟩), .pointer (some ⟨Bn, 0, none⟩)] (fun k : Nat => #[chunkV st b off 0 k]) (KB2 Bs Bn) (fun ys => ys = List.range (chunks st 0)) (fun _ => True) (chunks st 0) w := fun l J Jx W hW _ _ _ h0 => by
  have hb1 := hW.cell (p := ⟨Bs, 0, none⟩) hBs'
  refine (chunk1_nil_in F n hf hro l Bs Bn A cap J W (hb1.trans hBs) h0).mono ?_
  rintro e W' ⟨he, hj⟩
  refine ⟨he, .inl ⟨[], ?_, hj⟩⟩
  have : chunks st 0 = 0 := by
    unfold chunks
    rw [Nat.zero_add]
    exact Nat.div_eq_of_lt (by omega)
  rw [this]
  rfl

/-- A new box: its cell, not frozen; and what stays so behind a further new block. -/
theorem box_cell (w : World) (v : Value) (t : TypeId) : (w.alloc (.cells #[v] t)).cell? ⟨w.heap.size, 0, none⟩ = some v ∧ (w.alloc (.cells #[v] t)).frozen? ⟨w.heap.size, 0, none⟩ = false := by
  constructor
  · simp
  · simp
theorem later_cell {w : World} {a : Addr} {v : Value} (o : Obj) (h : w.cell? a = some v) : (w.alloc o).cell? a = some v :=
  (World.cell?_alloc_lt w o a (World.block_lt_of_cell? w a h)).trans h
theorem later_frozen {w : World} {a : Addr} {v : Value} (o : Obj) (h : w.cell? a = some v) (hf : w.frozen? a = false) : (w.alloc o).frozen? a = false :=
  (World.frozen?_of_block (Below.heap_alloc w o a.block (World.block_lt_of_cell? w a h))).trans hf

/-! ### Sum itself -/
/-- The k-th chunk's bytes; the bytes of several chunks. -/
def chunkB (st : Nat) (l : List UInt8) (k : Nat) : List UInt8 := (l.drop (st * k)).take st
def chunkBs (st : Nat) (l : List UInt8) (ks : List Nat) : List UInt8 := ks.flatMap (chunkB st l)
theorem chunkBs_snoc (st : Nat) (l : List UInt8) (ks : List Nat) (k : Nat) : chunkBs st l (ks ++ [k]) = chunkBs st l ks ++ chunkB st l k := by simp [chunkBs]
theorem chunkB_length (st : Nat) (l : List UInt8) (k : Nat) : (chunkB st l k).length = chunkLen st l.length k := by simp [chunkB, chunkLen]
theorem chunkBs_range (st : Nat) (l : List UInt8) (k : Nat) : chunkBs st l (List.range k) = l.take (st * k) := by
  induction k with
  | zero => simp [chunkBs]
  | succ k ih => rw [List.range_succ, chunkBs_snoc, ih, chunkB, Nat.mul_add, Nat.mul_one, List.take_add]
theorem chunkBs_all (st : Nat) (l : List UInt8) (hs : 1 ≤ st) : chunkBs st l (List.range (chunks st l.length)) = l := by
  rw [chunkBs_range]
  refine List.take_of_length_le ?_
  unfold chunks
  have h1 := Nat.div_add_mod (l.length + (st - 1)) st
  have h2 := Nat.mod_lt (l.length + (st - 1)) (show 0 < st by omega)
  omega
theorem chunkB_nth (st : Nat) (l : List UInt8) (k j : Nat) (h : j < st) : nth (chunkB st l k) j = nth l (chunkAt st k + j) := by
  rw [chunkB, nth_take _ _ _ h, nth_drop]
  rfl

/-- The two sums when i bytes of a chunk c are added to what stands for p. -/
def stepLo (p c : List UInt8) (i : Nat) : Nat := lowN p % 65521 + sumN (c.take i)
def stepHi (p c : List UInt8) (i : Nat) : Nat := highN p % 65521 + i * (lowN p % 65521) + sumS (c.take i)
theorem stepLo_succ (p c : List UInt8) (i : Nat) (h : i < c.length) : (stepLo p c (i + 1) : Int) = stepLo p c i + nth c i := by
  rw [nth_eq c i h]
  unfold stepLo
  rw [take_snoc' c i h, sumN_append]
  simp [sumN]
  omega
theorem stepHi_succ (p c : List UInt8) (i : Nat) (h : i < c.length) : stepHi p c (i + 1) = stepHi p c i + stepLo p c (i + 1) := by
  unfold stepHi stepLo
  rw [take_snoc' c i h, sumN_append, sumS_append, Nat.add_mul]
  simp [sumN, sumS]
  omega
theorem stepLo_le (p c : List UInt8) (i : Nat) (h : c.length ≤ 65536) : stepLo p c i ≤ 65520 + 255 * 65536 := by
  unfold stepLo
  have h1 := sumN_le (c.take i)
  have h2 : (c.take i).length ≤ 65536 := by simp; omega
  omega
theorem stepHi_le (p c : List UInt8) (i : Nat) (h : c.length ≤ 65536) (hi : i ≤ c.length) : stepHi p c i ≤ 65520 + 65536 * 65520 + 255 * 65536 * 65536 := by
  unfold stepHi
  have h1 := sumS_le (c.take i)
  have h2 : (c.take i).length ≤ 65536 := by simp; omega
  have h3 : 255 * (c.take i).length * (c.take i).length ≤ 255 * 65536 * 65536 := Nat.mul_le_mul (Nat.mul_le_mul_left _ h2) h2
  have h4 : i * (lowN p % 65521) ≤ 65536 * 65520 := Nat.mul_le_mul (by omega) (by omega)
  omega
theorem stepLo_end (p c : List UInt8) : stepLo p c c.length % 65521 = lowN (p ++ c) % 65521 := by
  unfold stepLo lowN
  rw [List.take_length, sumN_append]
  omega
theorem stepHi_end (p c : List UInt8) : stepHi p c c.length % 65521 = highN (p ++ c) % 65521 := by
  unfold stepHi highN
  rw [List.take_length, sumS_append, List.length_append]
  have h1 : c.length * (lowN p % 65521) % 65521 = (c.length * lowN p) % 65521 := by rw [Nat.mul_mod, Nat.mod_mod, ← Nat.mul_mod]
  have h2 : c.length * lowN p = c.length + c.length * sumN p := by unfold lowN; rw [Nat.mul_add, Nat.mul_one]
  rw [h2] at h1
  omega

/-- Between two rounds: the boxes L and L + 1 hold the reduced sums of the bytes that have come. -/
def SumI (w : World) (L st : Nat) (l : List UInt8) (ks : List Nat) (W : World) : Prop :=
  ((W.cell? ⟨L, 0, none⟩ = some (.int .u64 (lowN (chunkBs st l ks) % 65521 : Nat)) ∧ W.frozen? ⟨L, 0, none⟩ = false) ∧ (W.cell? ⟨L + 1, 0, none⟩ = some (.int .u64 (highN (chunkBs st l ks) % 65521 : Nat)) ∧ W.frozen? ⟨L + 1, 0, none⟩ = false)) ∧ Below w.heap.size w W

/-- The chunk lies within the bytes. -/
theorem chunk_in_len (st len k : Nat) (h : 0 < chunkLen st len k) : chunkAt st k + chunkLen st len k ≤ len := by unfold chunkLen chunkAt at *; omega

/-- In a round's inner loop: W is the world at its start, wr the world when j bytes of c are added. -/
def SumR (w W wr : World) (L Bs Bn : Nat) (p c : List UInt8) (j : Nat) : Prop :=
  wr.cell? ⟨L, 0, none⟩ = some (.int .u64 (stepLo p c j : Nat)) ∧ wr.frozen? ⟨L, 0, none⟩ = false ∧ wr.cell? ⟨L + 1, 0, none⟩ = some (.int .u64 (stepHi p c j : Nat)) ∧ wr.frozen? ⟨L + 1, 0, none⟩ = false ∧
    KeepsOthers W wr ∧ KB2 Bs Bn W wr ∧ Below w.heap.size w wr
theorem SumR.start {w W : World} {L st : Nat} {l : List UInt8} {ks : List Nat} (Bs Bn : Nat) (c : List UInt8) (h : SumI w L st l ks W) : SumR w W W L Bs Bn (chunkBs st l ks) c 0 := by
  obtain ⟨⟨⟨h1, h2⟩, h3, h4⟩, h5⟩ := h
  refine ⟨?_, h2, ?_, h4, KeepsOthers.refl _, KB2.refl _ _ _, h5⟩
  · rw [h1]; simp [stepLo, sumN]
  · rw [h3]; simp [stepHi, sumS]
theorem two_cells {W : World} {L : Nat} {u v x y : Value} (h1 : W.cell? ⟨L, 0, none⟩ = some u) (h3 : W.cell? ⟨L + 1, 0, none⟩ = some v) :
    ((W.setCell ⟨L, 0, none⟩ x).setCell ⟨L + 1, 0, none⟩ y).cell? ⟨L, 0, none⟩ = some x ∧ ((W.setCell ⟨L, 0, none⟩ x).setCell ⟨L + 1, 0, none⟩ y).cell? ⟨L + 1, 0, none⟩ = some y := by
  constructor
  · rw [World.cell?_setCell_other _ _ _ _ (fun e => by injection e with e; omega)]
    exact World.cell?_setCell_same' _ _ _ (by rw [h1]; rfl)
  · refine World.cell?_setCell_same' _ _ _ ?_
    rw [World.cell?_setCell_other _ _ _ _ (fun e => by injection e with e; omega), h3]
    rfl
theorem SumR.both {w W wr : World} {L Bs Bn : Nat} {p c : List UInt8} {j : Nat} (h : SumR w W wr L Bs Bn p c j) (x y : Value) (hL : w.heap.size ≤ L) (h1 : Bs ≠ L) (h2 : Bs ≠ L + 1) (h3 : Bn ≠ L) (h4 : Bn ≠ L + 1) :
    let w' := (wr.setCell ⟨L, 0, none⟩ x).setCell ⟨L + 1, 0, none⟩ y
    w'.cell? ⟨L, 0, none⟩ = some x ∧ w'.frozen? ⟨L, 0, none⟩ = false ∧ w'.cell? ⟨L + 1, 0, none⟩ = some y ∧ w'.frozen? ⟨L + 1, 0, none⟩ = false ∧ KeepsOthers W w' ∧ KB2 Bs Bn W w' ∧ Below w.heap.size w w' := by
  obtain ⟨c1, f1, c2, f2, ko, k2, hb⟩ := h
  have hc := two_cells (x := x) (y := y) c1 c2
  refine ⟨hc.1, ?_, hc.2, ?_, (ko.trans (KeepsOthers.setCell _ _ _)).trans (KeepsOthers.setCell _ _ _), (k2.trans (KB2.setCell _ _ _ h1 h3)).trans (KB2.setCell _ _ _ h2 h4), (hb.setCell (p := ⟨L, 0, none⟩) hL _).setCell (p := ⟨L + 1, 0, none⟩) (by show _ ≤ L + 1; omega) _⟩
  · rw [World.frozen?_setCell, World.frozen?_setCell]; exact f1
  · rw [World.frozen?_setCell, World.frozen?_setCell]; exact f2
theorem SumR.step {w W wr : World} {L Bs Bn : Nat} {p c : List UInt8} {j : Nat} (h : SumR w W wr L Bs Bn p c j) (hj : j < c.length) (hL : w.heap.size ≤ L) (h1 : Bs ≠ L) (h2 : Bs ≠ L + 1) (h3 : Bn ≠ L) (h4 : Bn ≠ L + 1) :
    SumR w W ((wr.setCell ⟨L, 0, none⟩ (.int .u64 ((stepLo p c j : Int) + nth c j))).setCell ⟨L + 1, 0, none⟩ (.int .u64 ((stepHi p c j : Int) + ((stepLo p c j : Int) + nth c j)))) L Bs Bn p c (j + 1) := by
  have e1 := stepLo_succ p c j hj
  have e2 : ((stepHi p c (j + 1) : Nat) : Int) = (stepHi p c j : Int) + (stepLo p c (j + 1) : Int) := by
    rw [stepHi_succ p c j hj]
    omega
  unfold SumR
  rw [e2, e1]
  exact h.both _ _ hL h1 h2 h3 h4
theorem SumR.last {w W wr : World} {L Bs Bn st : Nat} {l : List UInt8} {ks : List Nat} {k : Nat} (h : SumR w W wr L Bs Bn (chunkBs st l ks) (chunkB st l k) (chunkB st l k).length) (hL : w.heap.size ≤ L) (h1 : Bs ≠ L) (h2 : Bs ≠ L + 1) (h3 : Bn ≠ L) (h4 : Bn ≠ L + 1) :
    let w' := (wr.setCell ⟨L, 0, none⟩ (.int .u64 ((stepLo (chunkBs st l ks) (chunkB st l k) (chunkB st l k).length : Int) % 65521))).setCell ⟨L + 1, 0, none⟩ (.int .u64 ((stepHi (chunkBs st l ks) (chunkB st l k) (chunkB st l k).length : Int) % 65521))
    KeepsOthers W w' ∧ KB2 Bs Bn W w' ∧ (((w'.cell? ⟨L, 0, none⟩ = some (.int .u64 (lowN (chunkBs st l (ks ++ [k])) % 65521 : Nat)) ∧ w'.frozen? ⟨L, 0, none⟩ = false) ∧ (w'.cell? ⟨L + 1, 0, none⟩ = some (.int .u64 (highN (chunkBs st l (ks ++ [k])) % 65521 : Nat)) ∧ w'.frozen? ⟨L + 1, 0, none⟩ = false)) ∧ Below w.heap.size w w') := by
  have e1 := stepLo_end (chunkBs st l ks) (chunkB st l k)
  have e2 := stepHi_end (chunkBs st l ks) (chunkB st l k)
  have f1 : ((lowN (chunkBs st l (ks ++ [k])) % 65521 : Nat) : Int) = (stepLo (chunkBs st l ks) (chunkB st l k) (chunkB st l k).length : Int) % 65521 := by
    rw [chunkBs_snoc, ← e1]
    omega
  have f2 : ((highN (chunkBs st l (ks ++ [k])) % 65521 : Nat) : Int) = (stepHi (chunkBs st l ks) (chunkB st l k) (chunkB st l k).length : Int) % 65521 := by
    rw [chunkBs_snoc, ← e2]
    omega
  rw [f1, f2]
  obtain ⟨a1, a2, a3, a4, a5, a6, a7⟩ := h.both (.int .u64 ((stepLo (chunkBs st l ks) (chunkB st l k) (chunkB st l k).length : Int) % 65521)) (.int .u64 ((stepHi (chunkBs st l ks) (chunkB st l k) (chunkB st l k).length : Int) % 65521)) hL h1 h2 h3 h4
  exact ⟨a5, a6, ⟨⟨a1, a2⟩, a3, a4⟩, a7⟩
theorem SumI.own (w : World) (L st : Nat) (l : List UInt8) (B : Nat) (hB : w.heap.size ≤ B) : OwnFrom B (SumI w L st l) :=
  OwnFrom.and (Go.Own.from (fun s A B row hs hg hr => ⟨⟨cell_kept hs.1.1 hg hr, (frozen_kept hs.1.1 hg hr).trans hs.1.2⟩, cell_kept hs.2.1 hg hr, (frozen_kept hs.2.1 hg hr).trans hs.2.2⟩) _) (ownFrom_below (Nat.le_refl _) hB)

set_option maxRecDepth 100000 in
set_option maxHeartbeats 2000000 in
theorem sum_in (F : Fence) (n : Nat) (hf1 : F.fn 71) (hf2 : F.fn 113) (hf3 : F.fn 138) (hck : ∀ (lo hi : Int) (W : World), 0 ≤ lo → lo < 65521 → 0 ≤ hi → hi < 65521 → CallsIn F (n - 1) Tryz.prog 114 #[.int .u64 lo, .int .u64 hi] W fun e w' => e = .returned (.int .u32 (hi * 65536 + lo)) ∧ W = w')
    (hf4 : F.fn 114) (hro : F.round = none) (hn : 3 ≤ n) (w : World) (b off len cap : Nat) (l : List UInt8) (h : Byt w w.heap.size (some ⟨b, off, none⟩) len cap l) (hlen : len ≤ 1099511627776) :
    CallsIn F n Tryz.prog 71 #[.slice (some ⟨b, off, none⟩) len cap] w fun e W' => e = .returned (.int .u32 (adl l : Nat)) ∧ Below w.heap.size w W' := by
  have h1 : 1 ≤ n := by omega
  have hcap := h.cap
  have hle := h.le
  unfold maxLen at hcap
  have Hl := Lib.hid h.len
  obtain ⟨st, hst⟩ : ∃ st : Nat, st = 65536 := ⟨_, rfl⟩
  have Hst := Lib.hid hst
  have hst1 : 1 ≤ st := by omega
  have hst2 : st ≤ 65536 := by omega
  clear hst
  refine callsIn_of_wp_marks Tryz.func71 rfl hf1 ?_ hro
  simp only [Tryz.ntmps71, List.size_toArray, List.length_cons, List.length_nil, Nat.reduceAdd, Nat.reduceSub, Array.replicate_succ, Array.replicate_zero, List.push_toArray, List.append_toArray, List.nil_append, List.cons_append]
  gi_wp2_with (gi_at_call 113; refine (chunk_in F (n - 1) hf2 hro _ _ _ _).mono ?_; rintro e w' ⟨rfl, rfl⟩)
  have hB0 : Below w.heap.size w ((((w.alloc (.cells #[.int .u64 1] 78)).alloc (.cells #[.int .u64 0] 78)).alloc (.cells #[.slice (some ⟨b, off, none⟩) len cap] 22)).alloc (.cells #[.int .i64 65536] 3)) :=
    ((((Below.refl _ w).alloc (Nat.le_refl _) _).alloc (by simp) _).alloc (by simp; omega) _).alloc (by simp; omega) _
  have c0 := box_cell w (.int .u64 1) 78
  have c1 := box_cell (w.alloc (.cells #[.int .u64 1] 78)) (.int .u64 0) 78
  have c2 := box_cell ((w.alloc (.cells #[.int .u64 1] 78)).alloc (.cells #[.int .u64 0] 78)) (.slice (some ⟨b, off, none⟩) len cap) 22
  have c3 := box_cell (((w.alloc (.cells #[.int .u64 1] 78)).alloc (.cells #[.int .u64 0] 78)).alloc (.cells #[.slice (some ⟨b, off, none⟩) len cap] 22)) (.int .i64 65536) 3
  simp only [World.size_alloc] at c1 c2 c3
  refine wpIn_rangeFunc_ownF hro h1 (gf := 138) (lb := #[.pointer (some ⟨w.heap.size + 1 + 1, 0, none⟩), .pointer (some ⟨w.heap.size + 1 + 1 + 1, 0, none⟩)]) rfl hf3 (enters_of Tryz.func138 (by kernel_rfl) rfl)
    (chunk_stops F (n - 1) hf3 hro (by omega) st (w.heap.size + 1 + 1) (w.heap.size + 1 + 1 + 1) b off len cap hst1 (by omega) hle hlen (by omega) _ (by simp) (by simp) (later_cell _ c2.1) (by rw [Hst.out]; exact c3.1))
    KB2.trans (fun W l o o' hl _ _ _ => KB2.putObj W l o' (by simp at hl; omega) (by simp at hl; omega)) (Below.refl _ _) (fun _ => rfl)
    (SumI w w.heap.size st l) (fun _ _ _ => False) (SumI.own _ _ _ _ _ (by simp; omega)) (fun _ _ _ _ _ hs _ _ => hs)
    ⟨⟨⟨later_cell _ (later_cell _ (later_cell _ c0.1)), later_frozen _ (later_cell _ (later_cell _ c0.1)) (later_frozen _ (later_cell _ c0.1) (later_frozen _ c0.1 c0.2))⟩, later_cell _ (later_cell _ c1.1), later_frozen _ (later_cell _ c1.1) (later_frozen _ c1.1 c1.2)⟩, hB0⟩
    (fun k => { tmps := #[.slice (some ⟨b, off, none⟩) len cap, undef, .int .u32 0, .pointer (some ⟨w.heap.size, 0, none⟩), .pointer (some ⟨w.heap.size + 1, 0, none⟩), chunkV st b off len k, undef, undef, .slice (some ⟨b, off, none⟩) len cap,
      .func (.func 138) #[] #[.pointer (some ⟨w.heap.size + 1 + 1, 0, none⟩), .pointer (some ⟨w.heap.size + 1 + 1 + 1, 0, none⟩)], chunkV st b off len k, undef, undef, undef, undef, undef, undef, undef, undef, undef, undef, undef, undef, undef, undef, undef, undef, undef, undef, undef, undef, undef], defers := [] }) ?assign ?body ?done ?stop
  case assign =>
    intro l x W K hK
    gi_wp2
    exact hK
  case body =>
    rintro l0 pre x W hI _
    have hlies := h.lies
    have hR := SumR.start (w.heap.size + 1 + 1) (w.heap.size + 1 + 1 + 1) (chunkB st l x) hI
    have hcl : (chunkB st l x).length = chunkLen st len x := by rw [chunkB_length, Hl.out]
    have hin := chunk_in_len st len x
    have hnth : ∀ j, j < st → nth (chunkB st l x) j = nth l (chunkAt st x + j) := fun j hj => chunkB_nth st l x j hj
    have hms : chunkLen st len x ≤ st := by unfold chunkLen; omega
    simp only [chunkV]
    generalize chunkLen st len x = m at *
    generalize chunkAt st x = d at *
    have Hcl := Lib.hid hcl
    have Hnth := Lib.hid hnth
    have Hlies := Lib.hid hlies
    have Hin := Lib.hid hin
    clear hcl hnth hlies hin hI c0 c1 c2 c3
    have hcm : (chunkB st l x).length ≤ 65536 := by rw [Hcl.out]; omega
    gi_wp2
    gi_loopw [13] (fun i wr => ∃ j : Nat, j ≤ m ∧ i = .int .i64 j ∧ SumR w W wr w.heap.size (w.heap.size + 1 + 1) (w.heap.size + 1 + 1 + 1) (chunkBs st l pre) (chunkB st l x) j) (fun i _ => m - (intOf i).toNat)
    case atStart => exact ⟨0, Nat.zero_le _, rfl, hR⟩
    case round =>
      obtain ⟨j, hj, rfl, hrel⟩ := hrel
      have hrel2 := hrel
      obtain ⟨cl, fl, ch, fh, _⟩ := hrel2
      have b1 := stepLo_le (chunkBs st l pre) (chunkB st l x) j hcm
      have b2 := stepHi_le (chunkBs st l pre) (chunkB st l x) j hcm (by rw [Hcl.out]; exact hj)
      by_cases hlt : j < m
      · have hcx : wr.cell? ⟨b, off + d + j, none⟩ = some (.int .u8 (nth (chunkB st l x) j)) := by
          have := Hin.out (by omega)
          obtain ⟨b', o', e, hb, hc⟩ := Hlies.out (by omega)
          injection e with e
          injection e with e1 e2
          subst e1
          subst e2
          rw [Hnth.out j (by omega), Nat.add_assoc]
          exact (hrel.2.2.2.2.2.2.cell (p := ⟨b, off + (d + j), none⟩) hb).trans (hc (d + j) (by omega))
        have n1 := nth_lo (chunkB st l x) j
        have n2 := nth_hi (chunkB st l x) j
        have HS := Lib.hid (hrel.step (by rw [Hcl.out]; exact hlt) (Nat.le_refl _) (by omega) (by omega) (by omega) (by omega))
        clear hrel
        gi_wp2
        go_roundw
        case rel => exact ⟨j + 1, by omega, by go_num, HS.out⟩
        case measure => simp [intOf]; omega
      · have HS := Lib.hid (SumR.last (by rw [Hcl.out, show m = j by omega]; exact hrel) (Nat.le_refl _) (by omega) (by omega) (by omega) (by omega))
        rw [Hcl.out, show m = j by omega] at HS
        clear hrel
        gi_wp2
        exact HS.out
  case done =>
    rintro D ys W hD rfl hI hK
    rw [show List.range (chunks st len) = List.range (chunks st l.length) by rw [Hl.out]] at hI
    unfold SumI at hI
    rw [chunkBs_all st l hst1] at hI
    obtain ⟨⟨⟨cl, fl⟩, ch, fh⟩, hB⟩ := hI
    have l1 : (lowN l % 65521 : Nat) < 65521 := Nat.mod_lt _ (by decide)
    have l2 : (highN l % 65521 : Nat) < 65521 := Nat.mod_lt _ (by decide)
    have Hck : Hid (((highN l % 65521 : Nat) : Int) * 65536 + ((lowN l % 65521 : Nat) : Int) = (adl l : Nat)) := by unfold Hid adl; omega
    generalize lowN l % 65521 = lo at *
    generalize highN l % 65521 = hi at *
    clear c0 c1 c2 c3
    gi_wp2_with (gi_at_call 114; refine (hck lo hi W (by omega) (by omega) (by omega) (by omega)).mono ?_; rintro e w' ⟨rfl, rfl⟩)
    refine ⟨by simp, .inl ⟨_, _, rfl, run_takeDeferred hK, ?_⟩⟩
    exact ⟨_, results_tmp rfl _ _ _, by rw [← Hck.out]; rfl, hB.trans (belowK_b (w := w) (Nat.le_refl _) W D _ _ (by simp at hD; omega) hK rfl rfl)⟩
  case stop =>
    rintro D c pre W _ _ h _
    exact h.elim

set_option maxRecDepth 100000 in
set_option maxHeartbeats 2000000 in
/-- .. of no bytes, nil or not. -/
theorem sum_nil_in (F : Fence) (n : Nat) (hf1 : F.fn 71) (hf2 : F.fn 113) (hf3 : F.fn 138) (hck : ∀ (lo hi : Int) (W : World), 0 ≤ lo → lo < 65521 → 0 ≤ hi → hi < 65521 → CallsIn F (n - 1) Tryz.prog 114 #[.int .u64 lo, .int .u64 hi] W fun e w' => e = .returned (.int .u32 (hi * 65536 + lo)) ∧ W = w')
    (hf4 : F.fn 114) (hro : F.round = none) (hn : 3 ≤ n) (w : World) (A : Option Addr) (cap : Nat) :
    CallsIn F n Tryz.prog 71 #[.slice A 0 cap] w fun e W' => e = .returned (.int .u32 (adl [] : Nat)) ∧ Below w.heap.size w W' := by
  have h1 : 1 ≤ n := by omega
  refine callsIn_of_wp_marks Tryz.func71 rfl hf1 ?_ hro
  simp only [Tryz.ntmps71, List.size_toArray, List.length_cons, List.length_nil, Nat.reduceAdd, Nat.reduceSub, Array.replicate_succ, Array.replicate_zero, List.push_toArray, List.append_toArray, List.nil_append, List.cons_append]
  gi_wp2_with (gi_at_call 113; refine (chunk_in F (n - 1) hf2 hro _ _ _ _).mono ?_; rintro e w' ⟨rfl, rfl⟩)
  have hB0 : Below w.heap.size w ((((w.alloc (.cells #[.int .u64 1] 78)).alloc (.cells #[.int .u64 0] 78)).alloc (.cells #[.slice A 0 cap] 22)).alloc (.cells #[.int .i64 65536] 3)) :=
    ((((Below.refl _ w).alloc (Nat.le_refl _) _).alloc (by simp) _).alloc (by simp; omega) _).alloc (by simp; omega) _
  have c0 := box_cell w (.int .u64 1) 78
  have c1 := box_cell (w.alloc (.cells #[.int .u64 1] 78)) (.int .u64 0) 78
  have c2 := box_cell ((w.alloc (.cells #[.int .u64 1] 78)).alloc (.cells #[.int .u64 0] 78)) (.slice A 0 cap) 22
  simp only [World.size_alloc] at c1 c2
  refine wpIn_rangeFunc_ownF hro h1 (gf := 138) (lb := #[.pointer (some ⟨w.heap.size + 1 + 1, 0, none⟩), .pointer (some ⟨w.heap.size + 1 + 1 + 1, 0, none⟩)]) rfl hf3 (enters_of Tryz.func138 (by kernel_rfl) rfl)
    (chunk_stops_nil F (n - 1) hf3 hro 1 (w.heap.size + 1 + 1) (w.heap.size + 1 + 1 + 1) 0 0 A cap _ (Nat.le_refl _) (by simp) (later_cell _ c2.1))
    KB2.trans (fun W l o o' hl _ _ _ => KB2.putObj W l o' (by simp at hl; omega) (by simp at hl; omega)) (Below.refl _ _) (fun _ => rfl)
    (fun ks W => ks = [] → SumI w w.heap.size 1 [] [] W) (fun _ _ _ => False) (fun s W W' row hs hg hr e => SumI.own w w.heap.size 1 [] _ (by simp; omega) [] W W' row (hs e) hg hr) (fun _ _ _ _ _ hs _ _ => hs)
    (fun _ => ⟨⟨⟨later_cell _ (later_cell _ (later_cell _ c0.1)), later_frozen _ (later_cell _ (later_cell _ c0.1)) (later_frozen _ (later_cell _ c0.1) (later_frozen _ c0.1 c0.2))⟩, later_cell _ (later_cell _ c1.1), later_frozen _ (later_cell _ c1.1) (later_frozen _ c1.1 c1.2)⟩, hB0⟩)
    (fun k => { tmps := #[.slice A 0 cap, undef, .int .u32 0, .pointer (some ⟨w.heap.size, 0, none⟩), .pointer (some ⟨w.heap.size + 1, 0, none⟩), chunkV 1 0 0 0 k, undef, undef, .slice A 0 cap,
      .func (.func 138) #[] #[.pointer (some ⟨w.heap.size + 1 + 1, 0, none⟩), .pointer (some ⟨w.heap.size + 1 + 1 + 1, 0, none⟩)], chunkV 1 0 0 0 k, undef, undef, undef, undef, undef, undef, undef, undef, undef, undef, undef, undef, undef, undef, undef, undef, undef, undef, undef, undef, undef], defers := [] }) ?assign ?body ?done ?stop
  case assign =>
    intro l x W K hK
    gi_wp2
    exact hK
  case body =>
    intro l0 pre x W _ hlt
    exact absurd hlt (by simp [chunks])
  case done =>
    intro D ys W hD hys hI hK
    have hI := hI (by rw [hys]; simp [chunks])
    unfold SumI at hI
    obtain ⟨⟨⟨cl, fl⟩, ch, fh⟩, hB⟩ := hI
    have Hck : Hid (((highN [] % 65521 : Nat) : Int) * 65536 + ((lowN [] % 65521 : Nat) : Int) = (adl [] : Nat)) := by unfold Hid adl; omega
    have l1 : (lowN [] % 65521 : Nat) < 65521 := Nat.mod_lt _ (by decide)
    have l2 : (highN [] % 65521 : Nat) < 65521 := Nat.mod_lt _ (by decide)
    have e0 : chunkBs 1 [] [] = [] := rfl
    rw [e0] at cl ch
    generalize lowN [] % 65521 = lo at *
    generalize highN [] % 65521 = hi at *
    clear c0 c1 c2 e0
    gi_wp2_with (gi_at_call 114; refine (hck lo hi W (by omega) (by omega) (by omega) (by omega)).mono ?_; rintro e w' ⟨rfl, rfl⟩)
    refine ⟨by simp, .inl ⟨_, _, rfl, run_takeDeferred hK, ?_⟩⟩
    exact ⟨_, results_tmp rfl _ _ _, by rw [← Hck.out]; rfl, hB.trans (belowK_b (w := w) (Nat.le_refl _) W D _ _ (by simp at hD; omega) hK rfl rfl)⟩
  case stop =>
    rintro D c pre W _ _ h _
    exact h.elim

/-- wire.Sum, of whatever bytes: the checksum; nothing that was there has changed. -/
theorem sum_any (w : World) (A : Option Addr) (len cap : Nat) (l : List UInt8) (h : Byt w w.heap.size A len cap l) (hlen : len ≤ 1099511627776) :
    Calls Tryz.prog 71 #[.slice A len cap] w fun e W' => e = .returned (.int .u32 (adl l : Nat)) ∧ Below w.heap.size w W' := by
  refine (callsIn_wide (n := 3)).1 ?_
  rcases Nat.eq_zero_or_pos len with h0 | h0
  · subst h0
    obtain rfl : l = [] := List.eq_nil_of_length_eq_zero h.len
    exact sum_nil_in Fence.wide 3 trivial trivial trivial (fun lo hi W a b c d => callsIn_wide.2 (checksum_any lo hi W a b c d)) trivial rfl (Nat.le_refl _) w A cap
  · obtain ⟨b, o, rfl, _⟩ := h.lies h0
    exact sum_in Fence.wide 3 trivial trivial trivial (fun lo hi W a b c d => callsIn_wide.2 (checksum_any lo hi W a b c d)) trivial rfl (Nat.le_refl _) w b o len cap l h hlen
/-- The same, the bytes below whatever block. -/
theorem sum_at (w : World) (B : Nat) (A : Option Addr) (len cap : Nat) (l : List UInt8) (h : Byt w B A len cap l) (hB : B ≤ w.heap.size) (hlen : len ≤ 1099511627776) :
    Calls Tryz.prog 71 #[.slice A len cap] w fun e W' => e = .returned (.int .u32 (adl l : Nat)) ∧ Below w.heap.size w W' := sum_any w A len cap l (h.more hB) hlen
end Go.Proofs.YtiikjdjpodmpcaaGreat

/- Walks of package wire: Frame, Unframe. -/
namespace Go.Proofs.YtiikjdjpodmpcaaGreat
open Go.RowKit
set_option linter.unusedVariables false

/-- A frame's bytes. -/
def body (p : List UInt8) : List UInt8 := w4 p.length ++ p
def frame (p : List UInt8) : List UInt8 := body p ++ w4 (adl (body p))
theorem body_length (p : List UInt8) : (body p).length = 4 + p.length := by simp [body, w4_length]
theorem frame_length (p : List UInt8) : (frame p).length = 8 + p.length := by simp [frame, body_length, w4_length]; omega

theorem frame_long (w : World) (s : ByteArray) (hs : 1048576 < s.size) (hs2 : s.size ≤ maxLen) :
    Calls Tryz.prog 58 #[.string s] w fun e w' => e = .returned (.tuple #[.slice none 0 0, .int .i64 3]) ∧ w = w' := by
  unfold maxLen at hs2
  go_enter Tryz.func58, Tryz.ntmps58
  go_wp2
  go_ret2
  exact ⟨rfl, rfl⟩

theorem frame_any (w : World) (s : ByteArray) (hs : s.size ≤ 1048576) :
    Calls Tryz.prog 58 #[.string s] w fun e w' => ∃ A n c, e = .returned (.tuple #[.slice A n c, .int .i64 0]) ∧ Own w' w.heap.size A n c (frame s.data.toList) ∧ Below w.heap.size w w' := by
  have hs2 : s.size ≤ maxLen := by unfold maxLen; omega
  have hcl := chk_lt (body s.data.toList)
  have Hl : Hid (s.data.toList.length = s.size) := by unfold Hid; rfl
  generalize hk : adl (body s.data.toList) = k at *
  have Hk := Lib.hid hk
  clear hk
  go_enter Tryz.func58, Tryz.ntmps58
  go_wp2_with fail
  refine (bigEndian_any s.size w (by omega)).mono ?_
  rintro e w1 ⟨rfl, hown1, hb1, hz1⟩
  have Hz1 := Lib.hid hz1
  have hsz1 := hb1.size
  clear hz1
  obtain ⟨c2, w2, hrun2, hby2, hb2, hz2⟩ := run_bytes_of_string' w1 s hs2
  have Hz2 := Lib.hid hz2
  have hsz2 := hb2.size
  clear hz2
  go_wp2_with fail
  refine (concat_any _ w2.heap.size w2.heap.size 2 2 [⟨_, _, _, w4 s.size⟩, ⟨_, _, _, s.data.toList⟩] rfl (by simp) (by simp) (PartsAt.two _ ((hown1.byt.same hb2).more (by omega)) hby2 (Nat.le_refl _)) (by omega) (by simp [total]; omega)).mono ?_
  rintro e w3 ⟨A3, n3, c3, rfl, hown3, hb3⟩
  have hsz3 := hb3.size
  simp only [World.size_alloc] at hsz3
  have e3 : flat [⟨some ⟨w.heap.size, 0, none⟩, 4, 4, w4 s.size⟩, ⟨some ⟨w1.heap.size, 0, none⟩, s.size, c2, s.data.toList⟩] = body s.data.toList := by simp [flat, body]
  rw [e3] at hown3
  have hn3 : n3 = 4 + s.size := by rw [← hown3.len, body_length, Hl.out]
  have hn3' : n3 ≤ 1048580 := by omega
  clear e3 hn3
  go_wp2_with fail
  refine (sum_any w3 A3 n3 c3 _ hown3.byt (by omega)).mono ?_
  rintro e w4' ⟨rfl, hb4⟩
  rw [Hk.out]
  have hsz4 := hb4.size
  go_wp2_with fail
  refine (bigEndian_any k w4' hcl).mono ?_
  rintro e w5 ⟨rfl, hown5, hb5, hz5⟩
  have Hz5 := Lib.hid hz5
  have hsz5 := hb5.size
  clear hz5
  go_wp2_with fail
  refine (concat_any _ w5.heap.size w5.heap.size 2 2 [⟨_, _, _, body s.data.toList⟩, ⟨_, _, _, w4 k⟩] rfl (by simp) (by simp) (PartsAt.two _ (((hown3.byt.same hb4).below hb5 (by omega)).more (by omega)) (hown5.byt.more (by omega)) (Nat.le_refl _)) (by omega) (by simp [total]; omega)).mono ?_
  rintro e w6 ⟨A6, n6, c6, rfl, hown6, hb6⟩
  go_wp2_with fail
  go_ret2
  refine ⟨A6, n6, c6, rfl, ?_, ?_⟩
  · have := hown6.more (B' := w.heap.size) (by simp; omega)
    simpa [flat, frame, Hk.out] using this
  · have a2 := Below.step ((Below.step hb1 hb2 hsz1).alloc (by omega) _) hb3 (by simp; omega)
    exact Below.step ((Below.step (Below.step a2 hb4 (by omega)) hb5 (by omega)).alloc (by omega) _) hb6 (by simp; omega)

theorem below_undrew {w w1 : World} (h : Below w.drew.heap.size w.drew w1) : Below w.heap.size w w1 := ⟨h.os, h.tape, h.output, h.size, h.block⟩

/-! ### Unframe -/
def sizeOfFrame (l : List UInt8) : Nat := be 0 (l.take 4)
theorem sizeOfFrame_lt (l : List UInt8) : sizeOfFrame l < 4294967296 := be_lt 0 (by decide) _

theorem unframe_short (w : World) (A : Option Addr) (n c : Nat) (h : n < 4) :
    Calls Tryz.prog 37 #[.slice A n c] w fun e w' => e = .returned (.tuple #[.string ⟨#[]⟩, .int .i64 0, .int .i64 5]) ∧ w = w' := by
  go_enter Tryz.func37, Tryz.ntmps37
  go_wp2
  go_ret3
  exact ⟨rfl, rfl⟩

theorem unframe_big (w : World) (A : Option Addr) (n c : Nat) (l : List UInt8) (hb : Byt w w.heap.size A n c l) (h : 4 ≤ n) (h2 : 1048576 < sizeOfFrame l) :
    Calls Tryz.prog 37 #[.slice A n c] w fun e w' => e = .returned (.tuple #[.string ⟨#[]⟩, .int .i64 0, .int .i64 4]) ∧ w = w' := by
  have hcap := hb.cap
  have hle := hb.le
  unfold maxLen at hcap
  obtain ⟨b, o, rfl, hlt, hc⟩ := hb.lies (by omega)
  have hp := hb.upto (hi := 4) h
  have hs := sizeOfFrame_lt l
  unfold sizeOfFrame at h2 hs
  clear hb hc
  generalize hk : be 0 (l.take 4) = k at *
  have Hk := Lib.hid hk
  clear hk
  go_enter Tryz.func37, Tryz.ntmps37
  go_wp2_with (go_at_call 70; (with_reducible refine (fromBigEndian_any w w.heap.size _ _ _ _ hp).mono ?_); rintro e w' ⟨rfl, rfl⟩; rw [Hk.out])
  go_ret3
  exact ⟨rfl, rfl⟩

theorem unframe_more (w : World) (A : Option Addr) (n c : Nat) (l : List UInt8) (hb : Byt w w.heap.size A n c l) (h : 4 ≤ n) (h2 : sizeOfFrame l ≤ 1048576) (h3 : n < sizeOfFrame l + 8) :
    Calls Tryz.prog 37 #[.slice A n c] w fun e w' => e = .returned (.tuple #[.string ⟨#[]⟩, .int .i64 0, .int .i64 5]) ∧ w = w' := by
  have hcap := hb.cap
  have hle := hb.le
  unfold maxLen at hcap
  obtain ⟨b, o, rfl, hlt, hc⟩ := hb.lies (by omega)
  have hp := hb.upto (hi := 4) h
  unfold sizeOfFrame at h2 h3
  clear hb hc
  generalize hk : be 0 (l.take 4) = k at *
  have Hk := Lib.hid hk
  clear hk
  go_enter Tryz.func37, Tryz.ntmps37
  go_wp2_with (go_at_call 70; (with_reducible refine (fromBigEndian_any w w.heap.size _ _ _ _ hp).mono ?_); rintro e w' ⟨rfl, rfl⟩; rw [Hk.out])
  go_ret3
  exact ⟨rfl, rfl⟩

/-- The checksum that the frame tells. -/
def toldSum (l : List UInt8) : Nat := be 0 ((l.take (4 + sizeOfFrame l + 4)).drop (4 + sizeOfFrame l))

set_option maxRecDepth 100000 in
set_option maxHeartbeats 1600000 in
/-- The walk from the test of the checksum on: k is what the frame tells of its length, m where its bytes end. -/
theorem unframe_walk (eqv : Bool) (w : World) (b o n c k m s t : Nat) (p1 p2 p3 p4 : List UInt8) (hcap : c ≤ 9223372036854775807) (hle : n ≤ c) (hm1 : 4 + (k : Int) ≤ m) (hm2 : (m : Int) ≤ 4 + k) (h2 : k ≤ 1048576) (h3 : m + 4 ≤ n)
    (hp : Byt w w.heap.size (some ⟨b, o, none⟩) 4 c p1) (q1 : Byt w w.heap.size (some ⟨b, o, none⟩) m c p2) (q2 : Byt w w.heap.size (some ⟨b, o + m, none⟩) 4 (c - m) p3) (q3 : Byt w w.heap.size (some ⟨b, o + 4, none⟩) (m - 4) (c - 4) p4)
    (hk : be 0 p1 = k) (hs : adl p2 = s) (ht : be 0 p3 = t) (hk1 : s < 4294967296) (hk2 : t < 4294967296) (he : ((s : Int) == (t : Int)) = eqv) (he2 : ((s : Int) != (t : Int)) = !eqv) :
    Calls Tryz.prog 37 #[.slice (some ⟨b, o, none⟩) n c] w fun e w' => e = .returned (if eqv then .tuple #[.string ⟨p4.toArray⟩, .int .i64 ((m : Int) + 4), .int .i64 0] else .tuple #[.string ⟨#[]⟩, .int .i64 0, .int .i64 4]) ∧ Below w.heap.size w w' := by
  have hcs : ∀ W : World, Below w.heap.size w W → (convert 22 9 (.slice (some ⟨b, o + 4, none⟩) (m - 4) (c - 4))).run Tryz.prog W = .ok (.string ⟨p4.toArray⟩) W := fun W hW => run_string_of_bytes (q3.below hW (Nat.le_refl _))
  have Hcs := Lib.hid hcs
  have Hq1 := Lib.hid q1
  have Hq2 := Lib.hid q2
  have Hk := Lib.hid hk
  have Hs := Lib.hid hs
  have Ht := Lib.hid ht
  have Hm : Hid ((4 : Int) + k = m) := by unfold Hid; omega
  have He := Lib.hid he
  have He2 := Lib.hid he2
  have f1 : ¬ c = m := by omega
  have f2 : (m : Int) + 4 ≤ c := by omega
  have f3 : (m : Int) ≤ c := by omega
  have f6 : ¬ c = 4 := by omega
  have f7 : 4 ≤ m := by omega
  clear hcs q1 q2 q3 hk hs ht he he2
  go_enter Tryz.func37, Tryz.ntmps37
  go_upto_region 9 with (go_at_call 70; (with_reducible refine (fromBigEndian_any w w.heap.size _ _ _ _ hp).mono ?_); rintro e w' ⟨rfl, rfl⟩; rw [Hk.out])
  rw [Hm.out]
  go_cut [33] (fun s wx => s = .bool (!eqv) ∧ Below w.heap.size w wx)
  case first =>
    have b1 := He.out
    have b2 := He2.out
    have f9 : 0 ≤ (m : Int) + 4 := by omega
    have f10 : ((m : Int) + 4).toNat = m + 4 := by omega
    have f8 : IntKind.i64.wrap ((m : Int) + 4) = (m : Int) + 4 := IntWalk.i64_in _ (by omega)
    go_region_with (first
      | (go_at_call 71; (with_reducible refine (sum_at w.drew w.heap.size _ _ _ _ Hq1.out.drew (Nat.le_refl _) (by omega)).mono ?_); rintro e w1 ⟨rfl, hb1⟩; rw [Hs.out])
      | (go_at_call 70; (with_reducible refine (fromBigEndian_any w.drew w.heap.size _ _ _ p3 Hq2.out.drew).mono ?_); rintro e w' ⟨rfl, rfl⟩; rw [Ht.out])
      | (go_at_call 70; (with_reducible refine (fromBigEndian_any w1 w.heap.size _ _ _ p3 (Hq2.out.drew.below hb1 (Nat.le_refl _))).mono ?_); rintro e w' ⟨rfl, rfl⟩; rw [Ht.out]))
    all_goals (go_wp2_with fail; go_meet; exact ⟨rfl, below_undrew hb1⟩)
  case rest =>
    obtain ⟨rfl, hbw⟩ := hcut
    have hrun := Hcs.out wc hbw
    cases eqv
    · go_wp2
      go_ret3
      exact ⟨rfl, hbw⟩
    · go_wp2
      go_ret3
      exact ⟨rfl, hbw⟩

/-- What Unframe returns: the piece, how many bytes the frame has, the error. -/
def unfr (l : List UInt8) : List UInt8 × Nat × Nat :=
  if l.length < 4 then ([], 0, 5)
  else if 1048576 < sizeOfFrame l then ([], 0, 4)
  else if l.length < sizeOfFrame l + 8 then ([], 0, 5)
  else if adl (l.take (4 + sizeOfFrame l)) = toldSum l then ((l.take (4 + sizeOfFrame l)).drop 4, 4 + sizeOfFrame l + 4, 0)
  else ([], 0, 4)
def unfrV (r : List UInt8 × Nat × Nat) : Value := .tuple #[.string ⟨r.1.toArray⟩, .int .i64 (r.2.1 : Nat), .int .i64 (r.2.2 : Nat)]

theorem unframe_any (w : World) (B : Nat) (A : Option Addr) (n c : Nat) (l : List UInt8) (hb : Byt w B A n c l) (hB : B ≤ w.heap.size) (hn : n ≤ 1099511627776) :
    Calls Tryz.prog 37 #[.slice A n c] w fun e w' => e = .returned (unfrV (unfr l)) ∧ Below w.heap.size w w' := by
  replace hb := hb.more hB
  have hl := hb.len
  unfold unfr
  by_cases h4 : l.length < 4
  · rw [if_pos h4]
    refine (unframe_short w A n c (by omega)).mono ?_
    rintro e w' ⟨rfl, rfl⟩
    exact ⟨rfl, Below.refl _ _⟩
  rw [if_neg h4]
  by_cases h5 : 1048576 < sizeOfFrame l
  · rw [if_pos h5]
    refine (unframe_big w A n c l hb (by omega) h5).mono ?_
    rintro e w' ⟨rfl, rfl⟩
    exact ⟨rfl, Below.refl _ _⟩
  rw [if_neg h5]
  by_cases h6 : l.length < sizeOfFrame l + 8
  · rw [if_pos h6]
    refine (unframe_more w A n c l hb (by omega) (by omega) (by omega)).mono ?_
    rintro e w' ⟨rfl, rfl⟩
    exact ⟨rfl, Below.refl _ _⟩
  rw [if_neg h6]
  have hcap := hb.cap
  have hle := hb.le
  unfold maxLen at hcap
  have hp := hb.upto (hi := 4) (by omega)
  have q1 := hb.upto (hi := 4 + sizeOfFrame l) (by omega)
  have q2 := hb.cut (lo := 4 + sizeOfFrame l) (hi := 4 + sizeOfFrame l + 4) (by omega) (by omega)
  have q3 := hb.cut (lo := 4) (hi := 4 + sizeOfFrame l) (by omega) (by omega)
  rw [if_neg (by omega)] at q2 q3
  rw [show 4 + sizeOfFrame l + 4 - (4 + sizeOfFrame l) = 4 by omega] at q2
  obtain ⟨b, o, rfl, hlt, hc⟩ := hb.lies (by omega)
  simp only [Option.map_some, add_plain] at q2 q3
  have hk1 := chk_lt (l.take (4 + sizeOfFrame l))
  have hk2 : toldSum l < 4294967296 := be_lt 0 (by decide) _
  by_cases heq : adl (l.take (4 + sizeOfFrame l)) = toldSum l
  · rw [if_pos heq]
    refine (unframe_walk true w b o n c (sizeOfFrame l) (4 + sizeOfFrame l) _ _ _ _ _ _ (by omega) hle (by omega) (by omega) (by omega) (by omega) hp q1 q2 q3 rfl rfl rfl hk1 hk2 ?_ ?_).mono ?_
    · change ((adl (l.take (4 + sizeOfFrame l)) : Int) == (toldSum l : Int)) = true
      simp
      omega
    · change ((adl (l.take (4 + sizeOfFrame l)) : Int) != (toldSum l : Int)) = false
      simp
      omega
    rintro e w' ⟨rfl, hbw⟩
    exact ⟨by simp [unfrV], hbw⟩
  · rw [if_neg heq]
    refine (unframe_walk false w b o n c (sizeOfFrame l) (4 + sizeOfFrame l) _ _ _ _ _ _ (by omega) hle (by omega) (by omega) (by omega) (by omega) hp q1 q2 q3 rfl rfl rfl hk1 hk2 ?_ ?_).mono ?_
    · change ((adl (l.take (4 + sizeOfFrame l)) : Int) == (toldSum l : Int)) = false
      simp
      omega
    · change ((adl (l.take (4 + sizeOfFrame l)) : Int) != (toldSum l : Int)) = true
      simp
      omega
    rintro e w' ⟨rfl, hbw⟩
    exact ⟨rfl, hbw⟩
end Go.Proofs.YtiikjdjpodmpcaaGreat

/- Plain mathematics: what is written is read back, no other bytes encode it, a changed byte changes the checksum. -/
namespace Go.Proofs.YtiikjdjpodmpcaaGreat
set_option linter.unusedVariables false

theorem grp_more (f y : Nat) (h : y < 128 ^ f) : grp (f + 1) y = grp f y := by
  induction f generalizing y with
  | zero =>
    have : y = 0 := by simpa using h
    subst this
    simp [grp]
  | succ f ih =>
    by_cases hy : y = 0
    · subst hy
      rw [grp_zero, grp_zero]
    · rw [grp_succ (f + 1) y (by omega), grp_succ f y (by omega), ih]
      rw [Nat.pow_succ] at h
      omega
theorem grp_nil (f y : Nat) (h : y < 128 ^ f) (h0 : (grp f y).length = 0) : y = 0 := by
  cases f with
  | zero => simpa using h
  | succ f =>
    by_cases hy : y = 0
    · exact hy
    · rw [grp_succ f y (by omega)] at h0
      simp at h0
theorem numGo_grp (f y : Nat) (h : y < 128 ^ f) (hy : y ≤ 144115188075855871) (r : List UInt8) : numGo 0 0 ((grp f y).reverse ++ r) = numGo y (grp f y).length r := by
  induction f generalizing y r with
  | zero =>
    have : y = 0 := by simpa using h
    subst this
    simp [grp]
  | succ f ih =>
    by_cases h0 : y = 0
    · subst h0
      rw [grp_zero]
      simp
    · rw [Nat.pow_succ] at h
      have hf : y / 128 < 128 ^ f := by omega
      rw [grp_succ f y (by omega), List.reverse_cons, List.append_assoc, ih (y / 128) hf (by omega)]
      have hnil := grp_nil f (y / 128) hf
      have hc : (UInt8.ofNat (128 + y % 128)).toNat = 128 + y % 128 := ofNat_toNat _ (by omega)
      rw [List.singleton_append, numGo, hc, if_neg (by omega), if_neg (by omega), if_neg (by omega), List.length_cons]
      congr 1
      omega
theorem num_enc (x : Nat) (hx : x < 18446744073709551616) (r : List UInt8) : num (enc x ++ r) = (x, (enc x).length, 0) := by
  have h9 : (128 : Nat) ^ 9 = 9223372036854775808 := by decide
  have hc : (UInt8.ofNat (x % 128)).toNat = x % 128 := ofNat_toNat _ (by omega)
  unfold num enc
  rw [List.reverse_cons, List.append_assoc, numGo_grp 9 (x / 128) (by omega) (by omega), List.singleton_append, numGo, hc, if_neg (by omega), if_pos (by omega)]
  simp
  omega

theorem numGo_enc (l : List UInt8) (x0 i : Nat) (hi : i = (grp 9 x0).length) (hx : x0 ≤ 144115188075855871) (h : (numGo x0 i l).2.2 = 0) :
    (grp 9 x0).reverse ++ l.take ((numGo x0 i l).2.1 - i) = enc (numGo x0 i l).1 := by
  induction l generalizing x0 i with
  | nil => simp [numGo] at h
  | cons c r ih =>
    have hcl := c.toNat_lt
    unfold numGo at h ⊢
    by_cases h1 : i = 0 ∧ c.toNat = 128
    · rw [if_pos h1] at h; simp at h
    rw [if_neg h1] at h ⊢
    by_cases h2 : c.toNat < 128
    · rw [if_pos h2]
      simp only
      rw [show i + 1 - i = 1 by omega, enc, show (x0 * 128 + c.toNat) / 128 = x0 by omega, show (x0 * 128 + c.toNat) % 128 = c.toNat by omega]
      simp
    rw [if_neg h2] at h ⊢
    by_cases h3 : 144115188075855871 < x0 * 128 + c.toNat % 128
    · rw [if_pos h3] at h; simp at h
    rw [if_neg h3] at h ⊢
    have h9 : (128 : Nat) ^ 9 = 9223372036854775808 := by decide
    have h8 : (128 : Nat) ^ 8 = 72057594037927936 := by decide
    have hpos : 0 < x0 * 128 + c.toNat % 128 := by
      by_cases h0 : x0 = 0
      · subst h0
        rw [grp_zero] at hi
        simp at hi
        omega
      · omega
    have hg : grp 9 (x0 * 128 + c.toNat % 128) = c :: grp 9 x0 := by
      rw [grp_succ 8 _ hpos, show (x0 * 128 + c.toNat % 128) / 128 = x0 by omega, grp_more 8 x0 (by omega)]
      congr 1
      rw [show 128 + (x0 * 128 + c.toNat % 128) % 128 = c.toNat by omega]
      simp
    have hrec := ih (x0 * 128 + c.toNat % 128) (i + 1) (by rw [hg, hi]; simp) (by omega) h
    have hle := numGo_le r (x0 * 128 + c.toNat % 128) (i + 1) h
    rw [hg, List.reverse_cons, List.append_assoc] at hrec
    rw [← hrec]
    generalize (numGo (x0 * 128 + c.toNat % 128) (i + 1) r).2.1 = k at *
    rw [show k - i = (k - (i + 1)) + 1 by omega, List.take_succ_cons]
    simp
theorem enc_num (l : List UInt8) (h : (num l).2.2 = 0) : l.take (num l).2.1 = enc (num l).1 := by
  have := numGo_enc l 0 0 (by rw [grp_zero]; rfl) (by omega) h
  rw [grp_zero] at this
  simpa [num] using this
theorem pcs_enc (s r : List UInt8) (hs : s.length ≤ 1048576) : pcs (enc s.length ++ s ++ r) = (s, (enc s.length).length + s.length, 0) := by
  unfold pcs
  rw [List.append_assoc, num_enc s.length (by omega)]
  simp only [ne_eq, not_true_eq_false, if_false]
  rw [if_neg (by omega), if_neg (by simp), List.drop_left, List.take_left]

/-! ### A changed byte -/
theorem sumN_set (l : List UInt8) (k : Nat) (c : UInt8) (h : k < l.length) : sumN (l.set k c) + l[k].toNat = sumN l + c.toNat := by
  induction l generalizing k with
  | nil => simp at h
  | cons b r ih =>
    cases k with
    | zero => simp [sumN]; omega
    | succ k =>
      have := ih k (by simpa using h)
      simp [sumN]
      omega
theorem chk_set (l : List UInt8) (k : Nat) (c : UInt8) (h : k < l.length) (hc : c ≠ l[k]) : adl (l.set k c) ≠ adl l := by
  have h1 := sumN_set l k c h
  have h2 := c.toNat_lt
  have h3 := l[k].toNat_lt
  have h4 : c.toNat ≠ l[k].toNat := fun e => hc (UInt8.toNat_inj.1 e)
  unfold adl lowN
  omega
theorem be_set (x : Nat) (k : Nat) (c : UInt8) (h : k < 4) (hx : x < 4294967296) (hc : c ≠ (w4 x)[k]'(by rw [w4_length]; exact h)) : be 0 ((w4 x).set k c) ≠ x := by
  have h2 := c.toNat_lt
  have e0 := ofNat_toNat (x / 16777216) (by omega)
  have e1 := ofNat_toNat (x / 65536 % 256) (by omega)
  have e2 := ofNat_toNat (x / 256 % 256) (by omega)
  have e3 := ofNat_toNat (x % 256) (by omega)
  have h4 : c.toNat ≠ ((w4 x)[k]'(by rw [w4_length]; exact h)).toNat := fun e => hc (UInt8.toNat_inj.1 e)
  rcases k with _ | _ | _ | _ | k
  · simp only [w4, List.getElem_cons_zero, e0] at h4
    simp only [w4, List.set_cons_zero, be, e1, e2, e3]
    omega
  · simp only [w4, List.getElem_cons_zero, List.getElem_cons_succ, e1] at h4
    simp only [w4, List.set_cons_zero, List.set_cons_succ, be, e0, e2, e3]
    omega
  · simp only [w4, List.getElem_cons_zero, List.getElem_cons_succ, e2] at h4
    simp only [w4, List.set_cons_zero, List.set_cons_succ, be, e0, e1, e3]
    omega
  · simp only [w4, List.getElem_cons_zero, List.getElem_cons_succ, e3] at h4
    simp only [w4, List.set_cons_zero, List.set_cons_succ, be, e0, e1, e2]
    omega
  · omega

theorem unfr_set (p : List UInt8) (hp : p.length ≤ 1048576) (k : Nat) (c : UInt8) (h4 : 4 ≤ k) (hk : k < (frame p).length) (hc : c ≠ (frame p)[k]) : unfr ((frame p).set k c) = ([], 0, 4) := by
  have hlen := frame_length p
  have hb := body_length p
  have htake4 : ((frame p).set k c).take 4 = w4 p.length := by
    rw [List.take_set_of_le (by omega)]
    unfold frame body
    rw [List.append_assoc, List.take_append_of_le_length (by rw [w4_length]; omega), List.take_of_length_le (by rw [w4_length]; omega)]
  have hsize : sizeOfFrame ((frame p).set k c) = p.length := by
    unfold sizeOfFrame
    rw [htake4, be_w4 _ (by omega)]
  have hclt := chk_lt (body p)
  have hq : (frame p)[k]? = some ((frame p)[k]) := List.getElem?_eq_getElem hk
  unfold unfr
  rw [hsize, List.length_set, hlen, if_neg (by omega), if_neg (by omega), if_neg (by omega), if_neg]
  unfold toldSum
  rw [hsize]
  by_cases hin : k < 4 + p.length
  · have e1 : ((frame p).set k c).take (4 + p.length) = (body p).set k c := by
      rw [List.take_set]
      unfold frame
      rw [List.take_append_of_le_length (by omega), List.take_of_length_le (by omega)]
    have e2 : (((frame p).set k c).take (4 + p.length + 4)).drop (4 + p.length) = w4 (adl (body p)) := by
      rw [List.take_of_length_le (by rw [List.length_set]; omega), List.drop_set_of_lt (by omega)]
      unfold frame
      rw [← hb, List.drop_left]
    rw [e1, e2, be_w4 _ hclt]
    refine chk_set _ _ _ (by omega) ?_
    have hq2 : (frame p)[k]? = some ((body p)[k]'(by omega)) := by
      unfold frame
      rw [List.getElem?_append_left (by omega), List.getElem?_eq_getElem (by omega)]
    rw [hq] at hq2
    injection hq2 with hq2
    rw [← hq2]
    exact hc
  · have e1 : ((frame p).set k c).take (4 + p.length) = body p := by
      rw [List.take_set_of_le (by omega)]
      unfold frame
      rw [List.take_append_of_le_length (by omega), List.take_of_length_le (by omega)]
    have e2 : (((frame p).set k c).take (4 + p.length + 4)).drop (4 + p.length) = (w4 (adl (body p))).set (k - (4 + p.length)) c := by
      rw [List.take_of_length_le (by rw [List.length_set]; omega), List.drop_set, if_neg (by omega)]
      unfold frame
      rw [← hb, List.drop_left]
    rw [e1, e2]
    refine fun e => be_set (adl (body p)) (k - (4 + p.length)) c (by omega) hclt ?_ e.symm
    have hq2 : (frame p)[k]? = some ((w4 (adl (body p)))[k - (4 + p.length)]'(by rw [w4_length]; omega)) := by
      unfold frame
      rw [List.getElem?_append_right (by omega), hb, List.getElem?_eq_getElem]
    rw [hq] at hq2
    injection hq2 with hq2
    rw [← hq2]
    exact hc
end Go.Proofs.YtiikjdjpodmpcaaGreat

/- Package wal, as functions of lists: frames one after the other, and what Scan reads of bytes. No function of the program is named here. -/
namespace Go.Proofs.YtiikjdjpodmpcaaGreat
set_option linter.unusedVariables false

theorem unfr_frame (p r : Str) (hp : p.length ≤ 1048576) : unfr (frame p ++ r) = (p, 8 + p.length, 0) := by
  have hl := frame_length p
  have hb := body_length p
  have e1 : frame p ++ r = w4 p.length ++ (p ++ (w4 (adl (body p)) ++ r)) := by simp [frame, body]
  have e2 : frame p ++ r = body p ++ (w4 (adl (body p)) ++ r) := by simp [frame]
  have h4 : (frame p ++ r).take 4 = w4 p.length := by rw [e1]; exact List.take_left' (w4_length _)
  have hs : sizeOfFrame (frame p ++ r) = p.length := by unfold sizeOfFrame; rw [h4]; exact be_w4 _ (by omega)
  have ht : (frame p ++ r).take (4 + p.length) = body p := by rw [e2]; exact List.take_left' (by rw [hb])
  have ht2 : (frame p ++ r).take (4 + p.length + 4) = frame p := List.take_left' (by rw [hl]; omega)
  have htold : toldSum (frame p ++ r) = adl (body p) := by
    unfold toldSum
    rw [hs, ht2]
    have : (frame p).drop (4 + p.length) = w4 (adl (body p)) := by unfold frame; exact List.drop_left' (by rw [hb])
    rw [this]
    exact be_w4 _ (chk_lt _)
  have hlen : (frame p ++ r).length = 8 + p.length + r.length := by rw [List.length_append, hl]
  unfold unfr
  rw [hs, if_neg (by omega), if_neg (by omega), if_neg (by omega), ht, if_pos htold.symm]
  have : (body p).drop 4 = p := by unfold body; exact List.drop_left' (w4_length _)
  rw [this]
  congr 2
  omega
theorem unfr_part (p : Str) (hp : p.length ≤ 1048576) (n : Nat) (hn : n < 8 + p.length) : unfr ((frame p).take n) = ([], 0, 5) := by
  have hl := frame_length p
  have hlen : ((frame p).take n).length = n := by rw [List.length_take, hl]; omega
  unfold unfr
  rw [hlen]
  by_cases h4 : n < 4
  · rw [if_pos h4]
  rw [if_neg h4]
  have e1 : frame p = w4 p.length ++ (p ++ w4 (adl (body p))) := by simp [frame, body]
  have ht : ((frame p).take n).take 4 = w4 p.length := by
    rw [List.take_take, show min 4 n = 4 by omega, e1]
    exact List.take_left' (w4_length _)
  have hs : sizeOfFrame ((frame p).take n) = p.length := by unfold sizeOfFrame; rw [ht]; exact be_w4 _ (by omega)
  rw [hs, if_neg (by omega), if_pos (by omega)]
theorem unfr_e (l : Str) : (unfr l).2.2 = 0 ∨ (unfr l).2.2 = 4 ∨ (unfr l).2.2 = 5 := by
  unfold unfr
  repeat' split
  all_goals simp
theorem unfr_n (l : Str) (h : (unfr l).2.2 = 0) : 8 ≤ (unfr l).2.1 ∧ (unfr l).2.1 ≤ l.length := by
  unfold unfr at *
  repeat' split
  all_goals simp_all
  all_goals omega

/-! ### Scan -/
def scanF : Nat → Str → List Str × Nat × Nat
  | 0, _ => ([], 0, 0)
  | f + 1, l =>
    if (unfr l).2.2 = 0 then ((unfr l).1 :: (scanF f (l.drop (unfr l).2.1)).1, (unfr l).2.1 + (scanF f (l.drop (unfr l).2.1)).2.1, (scanF f (l.drop (unfr l).2.1)).2.2)
    else ([], 0, if (unfr l).2.2 = 5 then 0 else (unfr l).2.2)
/-- The records of all complete frames, how many bytes these have, the error. -/
def scan (l : Str) : List Str × Nat × Nat := scanF (l.length + 1) l
theorem scanF_eq : ∀ (f g : Nat) (l : Str), l.length < f → l.length < g → scanF f l = scanF g l
  | 0, _, _, h, _ => absurd h (by omega)
  | _ + 1, 0, _, _, h => absurd h (by omega)
  | f + 1, g + 1, l, h1, h2 => by
    unfold scanF
    by_cases h : (unfr l).2.2 = 0
    · have hn := unfr_n l h
      rw [if_pos h, if_pos h, scanF_eq f g (l.drop (unfr l).2.1) (by rw [List.length_drop]; omega) (by rw [List.length_drop]; omega)]
    · rw [if_neg h, if_neg h]
theorem scan_eq (l : Str) : scan l = if (unfr l).2.2 = 0 then ((unfr l).1 :: (scan (l.drop (unfr l).2.1)).1, (unfr l).2.1 + (scan (l.drop (unfr l).2.1)).2.1, (scan (l.drop (unfr l).2.1)).2.2) else ([], 0, if (unfr l).2.2 = 5 then 0 else (unfr l).2.2) := by
  by_cases h : (unfr l).2.2 = 0
  · have hn := unfr_n l h
    have e : scanF l.length (l.drop (unfr l).2.1) = scan (l.drop (unfr l).2.1) := scanF_eq _ _ _ (by rw [List.length_drop]; omega) (by omega)
    rw [if_pos h]
    show scanF (l.length + 1) l = _
    unfold scanF
    rw [if_pos h, e]
  · rw [if_neg h]
    show scanF (l.length + 1) l = _
    unfold scanF
    rw [if_neg h]
theorem scan_le : ∀ (n : Nat) (l : Str), l.length = n → (scan l).2.1 ≤ l.length ∧ 8 * (scan l).1.length ≤ (scan l).2.1 := by
  intro n
  induction n using Nat.strongRecOn with
  | ind n ih =>
    intro l hl
    rw [scan_eq]
    by_cases h : (unfr l).2.2 = 0
    · have hn := unfr_n l h
      rw [if_pos h]
      have := ih (l.drop (unfr l).2.1).length (by rw [List.length_drop]; omega) _ rfl
      simp only [List.length_cons, List.length_drop] at this ⊢
      omega
    · rw [if_neg h]
      simp
theorem scan_ends : ∀ (n : Nat) (l : Str), l.length = n → (scan l).2.2 = 0 ∨ (scan l).2.2 = 4 := by
  intro n
  induction n using Nat.strongRecOn with
  | ind n ih =>
    intro l hl
    rw [scan_eq]
    by_cases h : (unfr l).2.2 = 0
    · have hn := unfr_n l h
      rw [if_pos h]
      exact ih (l.drop (unfr l).2.1).length (by rw [List.length_drop]; omega) _ rfl
    · rw [if_neg h]
      rcases unfr_e l with e | e | e
      · exact absurd e h
      · right; simp [e]
      · left; simp [e]
theorem scan_nil : scan [] = ([], 0, 0) := by
  rw [scan_eq]
  rfl

/-! ### Frames one after the other -/
def fra (rs : List Str) : Str := rs.flatMap frame
def okR (rs : List Str) : Prop := ∀ p ∈ rs, p.length ≤ 1048576
theorem fra_nil : fra [] = [] := rfl
theorem fra_cons (p : Str) (rs : List Str) : fra (p :: rs) = frame p ++ fra rs := by simp [fra]
theorem fra_append (rs qs : List Str) : fra (rs ++ qs) = fra rs ++ fra qs := by simp [fra]
theorem fra_one (p : Str) : fra [p] = frame p := by simp [fra]
theorem scan_fra (t : Str) : ∀ rs : List Str, okR rs → scan (fra rs ++ t) = (rs ++ (scan t).1, (fra rs).length + (scan t).2.1, (scan t).2.2)
  | [], _ => by simp [fra]
  | p :: rs, h => by
    have hp := h p List.mem_cons_self
    have ih := scan_fra t rs fun q hq => h q (List.mem_cons_of_mem _ hq)
    rw [fra_cons, List.append_assoc, scan_eq, unfr_frame p _ hp]
    simp only [↓reduceIte]
    rw [List.drop_left' (by rw [frame_length]), ih]
    simp only [List.cons_append, List.length_append, frame_length]
    congr 2
    omega
theorem scan_all (rs : List Str) (h : okR rs) : scan (fra rs) = (rs, (fra rs).length, 0) := by
  have := scan_fra [] rs h
  rw [scan_nil] at this
  simpa using this
theorem scan_part (p : Str) (hp : p.length ≤ 1048576) (n : Nat) (hn : n < 8 + p.length) : scan ((frame p).take n) = ([], 0, 0) := by
  rw [scan_eq, unfr_part p hp n hn]
  simp
theorem take_fra : ∀ (rs : List Str) (n : Nat), okR rs → ∃ m t, m ≤ rs.length ∧ (fra rs).take n = fra (rs.take m) ++ t ∧ scan t = ([], 0, 0)
  | [], n, _ => ⟨0, [], Nat.le_refl _, by simp [fra], scan_nil⟩
  | p :: rs, n, h => by
    have hp := h p List.mem_cons_self
    have hl := frame_length p
    by_cases hn : n < 8 + p.length
    · refine ⟨0, (frame p).take n, Nat.zero_le _, ?_, scan_part p hp n hn⟩
      rw [fra_cons, List.take_append_of_le_length (by omega)]
      simp [fra]
    · obtain ⟨m, t, h1, h2, h3⟩ := take_fra rs (n - (8 + p.length)) fun q hq => h q (List.mem_cons_of_mem _ hq)
      refine ⟨m + 1, t, by simp; omega, ?_, h3⟩
      rw [fra_cons, List.take_append, List.take_of_length_le (by omega), hl, h2, List.take_succ_cons, fra_cons, List.append_assoc]
/-- What is read of all frames of some records, and a prefix of those of others. -/
theorem scan_cut (xs ys : List Str) (n : Nat) (ha : okR xs) (hb : okR ys) : ∃ m, m ≤ ys.length ∧ ∃ t, fra xs ++ (fra ys).take n = fra (xs ++ ys.take m) ++ t ∧ scan (fra xs ++ (fra ys).take n) = (xs ++ ys.take m, (fra (xs ++ ys.take m)).length, 0) := by
  obtain ⟨m, t, h1, h2, h3⟩ := take_fra ys n hb
  have e : fra xs ++ (fra ys).take n = fra (xs ++ ys.take m) ++ t := by rw [h2, fra_append, List.append_assoc]
  refine ⟨m, h1, t, e, ?_⟩
  rw [e, scan_fra t _ (fun q hq => by
    rcases List.mem_append.1 hq with h | h
    · exact ha q h
    · exact hb q (List.mem_of_mem_take h)), h3]
  simp
theorem fra_length : ∀ rs : List Str, (fra rs).length = 8 * rs.length + (rs.map List.length).sum
  | [] => rfl
  | p :: rs => by rw [fra_cons, List.length_append, frame_length, fra_length rs]; simp; omega
end Go.Proofs.YtiikjdjpodmpcaaGreat

/- Package wal, as functions of a tree's state: what a log is, and what each of its calls does and returns. No function of the program is named here. -/
namespace Go.Proofs.YtiikjdjpodmpcaaGreat
set_option linter.unusedVariables false

/-- A log: its path, what it knows of its file, the error that broke it. -/
structure Lg where
  path : Str
  size : Int
  count : Int
  e : Int
def tmpOf (p : Str) : Str := tempL ++ p

/-- Steps, executed up to the first error. -/
abbrev Stp := St → St × Int
def doS : List Stp → St → Int → St × Int
  | [], s, e => (s, e)
  | f :: r, s, e => if e = 0 then doS r (f s).1 (f s).2 else doS r s e
theorem doS_cons (f : Stp) (r : List Stp) (s : St) (e : Int) : doS (f :: r) s e = if e = 0 then doS r (f s).1 (f s).2 else doS r s e := rfl
theorem doS_nil (s : St) (e : Int) : doS [] s e = (s, e) := rfl
theorem doS_err : ∀ (l : List Stp) (s : St) (e : Int), e ≠ 0 → doS l s e = (s, e)
  | [], _, _, _ => rfl
  | f :: r, s, e, h => by rw [doS_cons, if_neg h]; exact doS_err r s e h
theorem doS_append : ∀ (l r : List Stp) (s : St) (e : Int), doS (l ++ r) s e = doS r (doS l s e).1 (doS l s e).2
  | [], _, _, _ => rfl
  | f :: l, r, s, e => by
    show doS (f :: (l ++ r)) s e = _
    by_cases h : e = 0
    · rw [doS_cons, doS_cons, if_pos h, if_pos h, doS_append l r]
    · rw [doS_err _ s e h, doS_err _ s e h, doS_err _ s e h]
theorem doS_take (l : List Stp) (i : Nat) (f : Stp) (h : l[i]? = some f) (s : St) (e : Int) : doS (l.take (i + 1)) s e = if (doS (l.take i) s e).2 = 0 then f (doS (l.take i) s e).1 else doS (l.take i) s e := by
  rw [List.take_add_one, h, doS_append]
  show doS [f] _ _ = _
  rw [doS_cons]
  by_cases h0 : (doS (l.take i) s e).2 = 0
  · rw [if_pos h0, if_pos h0]; rfl
  · rw [if_neg h0, if_neg h0]; rfl

def cleanS (tp : Str) : Stp := fun s => if (s.stat tp).2.2 then s.remove tp else (s, 0)
def replS (p : Str) (b : Str) : List Stp := [cleanS (tmpOf p), fun s => s.make (tmpOf p), fun s => s.write (tmpOf p) b, fun s => s.sync (tmpOf p), fun s => s.rename (tmpOf p) p, fun s => s.syncPaths]

/-- A call of a log: what it leaves of the log, and of the tree; its error is the second component's. -/
def Lg.replace (L : Lg) (s : St) (b : Str) (count : Int) : Lg × St :=
  match doS (replS L.path b) s L.e with
  | (s', e) => if e = 0 then ({ L with size := b.length, count := count, e := e }, s') else ({ L with e := e }, s')
def Lg.append (L : Lg) (s : St) (r : Str) : Lg × St :=
  match doS [fun s => s.append_ L.path (frame r)] s L.e with
  | (s', e) => if e = 0 then ({ L with size := L.size + (frame r).length, count := L.count + 1, e := e }, s') else ({ L with e := e }, s')
def Lg.sync (L : Lg) (s : St) : Lg × St :=
  match doS [fun s => s.sync L.path] s L.e with
  | (s', e) => ({ L with e := e }, s')
def Lg.mend (L : Lg) (s : St) (b : Str) (whole : Nat) (count : Int) : Lg × St :=
  if whole < b.length then L.replace s (b.take whole) count
  else match doS [cleanS (tmpOf L.path)] s L.e with
    | (s', e) => ({ L with size := whole, count := count, e := e }, s')
/-- A log that is being opened: the log, the tree, the records, the error. -/
def Lg.begin_ (L : Lg) (s : St) : Lg × St × List Str × Int :=
  if (s.stat L.path).2.2 then
    match s.read L.path with
    | (s1, b, e) =>
      if e = 0 then
        (if (scan b).2.2 = 0 then ((L.mend s1 b (scan b).2.1 ((scan b).1.length : Nat)).1, (L.mend s1 b (scan b).2.1 ((scan b).1.length : Nat)).2, (scan b).1, (L.mend s1 b (scan b).2.1 ((scan b).1.length : Nat)).1.e)
         else (L, s1, [], ((scan b).2.2 : Nat)))
      else (L, s1, [], e)
  else ((L.replace s [] 0).1, (L.replace s [] 0).2, [], (L.replace s [] 0).1.e)
theorem replace_path (L : Lg) (s : St) (b : Str) (n : Int) : (L.replace s b n).1.path = L.path := by
  unfold Lg.replace
  generalize doS (replS L.path b) s L.e = r
  obtain ⟨s', e⟩ := r
  simp only
  split <;> rfl
theorem append_path (L : Lg) (s : St) (r : Str) : (L.append s r).1.path = L.path := by
  unfold Lg.append
  generalize doS _ s L.e = r
  obtain ⟨s', e⟩ := r
  simp only
  split <;> rfl
end Go.Proofs.YtiikjdjpodmpcaaGreat

/- Package wal: a tree that the call has made, and blocks beside it that no call on the tree touches. -/
namespace Go.Proofs.YtiikjdjpodmpcaaGreat
open Go.RowKit Go.Maps
set_option linter.unusedVariables false

/-- In W lies a tree in the state s, in blocks made since w; the blocks Z, made since w too, are none of the tree's and hold what Z says; what was there in w is as it was. -/
structure LivZ (w : World) (tb : Nat) (s : St) (k : Nat) (Z : List (Nat × Obj)) (W : World) : Prop where
  ex : ∃ g, TreeAt W tb s g ∧ (∀ j, g.tag j ≠ 0 → w.heap.size ≤ j) ∧ ∀ z ∈ Z, g.tag z.1 = 0
  at_ : ∀ z ∈ Z, W.heap[z.1]? = some z.2
  new : ∀ z ∈ Z, w.heap.size ≤ z.1
  nd : Z.Pairwise fun a b => a.1 ≠ b.1
  nx : Nx w W
  good : Good k s
section
variable {w W0 W : World} {tb k : Nat} {s : St} {Z Z' : List (Nat × Obj)}
theorem LivZ.lt (h : LivZ w tb s k Z W) {z : Nat × Obj} (hz : z ∈ Z) : z.1 < W.heap.size := (Array.getElem?_eq_some_iff.1 (h.at_ z hz)).1
theorem LivZ.next (h : LivZ w tb s k Z W0) (hn : Nx W0 W) : LivZ w tb s k Z W := by
  obtain ⟨g, hT, h0, hz⟩ := h.ex
  exact ⟨⟨g, hT.nx hn, h0, hz⟩, fun z hm => (hn.block z.1 (h.lt hm)).trans (h.at_ z hm), h.new, h.nd, h.nx.trans hn, h.good⟩
theorem LivZ.drewN (h : LivZ w tb s k Z W0) (m : Nat) : LivZ w tb s k Z (W0.drewN m) := h.next (Nx.drewN (Nx.refl _) _)
theorem LivZ.up (h : LivZ w tb s k Z W) {m : Nat} (hm : k ≤ m) : LivZ w tb s m Z W := ⟨h.ex, h.at_, h.new, h.nd, h.nx, h.good.up hm⟩
theorem LivZ.perm (h : LivZ w tb s k Z W) (hp : Z.Perm Z') : LivZ w tb s k Z' W := by
  obtain ⟨g, hT, h0, hz⟩ := h.ex
  exact ⟨⟨g, hT, h0, fun z hm => hz z (hp.mem_iff.2 hm)⟩, fun z hm => h.at_ z (hp.mem_iff.2 hm), fun z hm => h.new z (hp.mem_iff.2 hm), (List.Perm.pairwise_iff (fun h => Ne.symm h) hp).1 h.nd, h.nx, h.good⟩
theorem LivZ.sub (h : LivZ w tb s k Z W) (hp : Z'.Sublist Z) : LivZ w tb s k Z' W := by
  obtain ⟨g, hT, h0, hz⟩ := h.ex
  exact ⟨⟨g, hT, h0, fun z hm => hz z (hp.subset hm)⟩, fun z hm => h.at_ z (hp.subset hm), fun z hm => h.new z (hp.subset hm), h.nd.sublist hp, h.nx, h.good⟩
theorem LivZ.swap {a b : Nat × Obj} (h : LivZ w tb s k (a :: b :: Z) W) : LivZ w tb s k (b :: a :: Z) W := h.perm (List.Perm.swap _ _ _)
theorem LivZ.tail {a : Nat × Obj} (h : LivZ w tb s k (a :: Z) W) : LivZ w tb s k Z W := h.sub (List.sublist_cons_self _ _)
/-- A block of W that no call on the tree can have touched, since it is new. -/
theorem LivZ.add (h : LivZ w tb s k Z W0) (hn : Nx W0 W) {j : Nat} {o : Obj} (hj : W0.heap.size ≤ j) (ho : W.heap[j]? = some o) : LivZ w tb s k ((j, o) :: Z) W := by
  have h1 := h.next hn
  obtain ⟨g, hT, h0, hz⟩ := h.ex
  have hw := h.nx.size
  refine ⟨⟨g, hT.nx hn, h0, fun z hm => ?_⟩, fun z hm => ?_, fun z hm => ?_, ?_, h1.nx, h.good⟩
  · rcases List.mem_cons.1 hm with rfl | hm
    · exact new_zero hT hj
    · exact hz z hm
  · rcases List.mem_cons.1 hm with rfl | hm
    · exact ho
    · exact h1.at_ z hm
  · rcases List.mem_cons.1 hm with rfl | hm
    · exact Nat.le_trans hw hj
    · exact h.new z hm
  · refine List.pairwise_cons.2 ⟨fun z hm e => ?_, h.nd⟩
    have := h.lt hm
    simp only at e
    omega
theorem LivZ.alloc (h : LivZ w tb s k Z W) (o : Obj) : LivZ w tb s k ((W.heap.size, o) :: Z) (W.alloc o) :=
  h.add ((Below.refl _ W).alloc (Nat.le_refl _) o) (Nat.le_refl _) (heap_alloc_new W o)
theorem LivZ.blk {j : Nat} {t : TypeId} {cs : Array Value} (h : LivZ w tb s k Z W) (hz : (j, .cells cs t (0, 0)) ∈ Z) : BlkIs W j t cs := h.at_ _ hz
/-- A cell of a block beside the tree is set. -/
theorem LivZ.set {j : Nat} {t : TypeId} {cs : Array Value} (h : LivZ w tb s k ((j, .cells cs t (0, 0)) :: Z) W) (i : Nat) (u : Value) :
    LivZ w tb s k ((j, .cells (cs.setIfInBounds i u) t (0, 0)) :: Z) (W.setCell ⟨j, i, none⟩ u) := by
  have hb : BlkIs W j t cs := h.blk List.mem_cons_self
  have hC := Chd.set W j i u
  obtain ⟨g, hT, h0, hz⟩ := h.ex
  have htag := hz _ List.mem_cons_self
  have hnew := h.new _ List.mem_cons_self
  have hnd := List.pairwise_cons.1 h.nd
  simp only at htag hnew hnd
  refine ⟨⟨g, hT.chd hC (fun x e => by rw [e]; exact htag), h0, fun z hm => ?_⟩, fun z hm => ?_, fun z hm => ?_, ?_, ?_, h.good⟩
  · rcases List.mem_cons.1 hm with rfl | hm
    · exact htag
    · exact hz z (List.mem_cons_of_mem _ hm)
  · rcases List.mem_cons.1 hm with rfl | hm
    · exact hb.set i u
    · rw [hC.block z.1 (h.lt (List.mem_cons_of_mem _ hm)) (fun e => hnd.1 z hm e.symm)]
      exact h.at_ z (List.mem_cons_of_mem _ hm)
  · rcases List.mem_cons.1 hm with rfl | hm
    · exact hnew
    · exact h.new z (List.mem_cons_of_mem _ hm)
  · exact List.pairwise_cons.2 ⟨hnd.1, hnd.2⟩
  · have c : Chd (fun _ => False) w (W.setCell ⟨j, i, none⟩ u) := (Chd.of_below h.nx).then_ hC (fun x hx e => by rw [e] at hx; omega)
    exact c.below (Nat.le_refl _) (fun _ _ e => e)
theorem LivZ.liv (h : LivZ w tb s k Z W) : Liv w tb s k W := by
  obtain ⟨g, hT, h0, hz⟩ := h.ex
  exact ⟨⟨g, hT, h0⟩, h.nx, h.good⟩
theorem LivZ.of (h : Liv w tb s k W) : LivZ w tb s k [] W := by
  obtain ⟨g, hT, h0⟩ := h.ex
  exact ⟨⟨g, hT, h0, fun z hm => by cases hm⟩, fun z hm => (by cases hm), fun z hm => (by cases hm), List.Pairwise.nil, h.nx, h.good⟩

theorem livz_of {f : FuncId} {args : Array Value} {v : Value} {s' : St} {k' : Nat} (h : LivZ w tb s k Z W0) (hn : Nx W0 W) (hg : Good k' s')
    (hc : ∀ g, TreeAt W tb s g → (∀ j, W0.heap.size ≤ j ∨ (∃ z ∈ Z, z.1 = j) → g.tag j = 0) → Calls Tryz.prog f args W fun e w' => e = .returned v ∧ ∃ g', TreeAt w' tb s' g' ∧ Chd (Mine g) W w' ∧ Gh.le W g g') :
    Calls Tryz.prog f args W fun e w' => e = .returned v ∧ LivZ w tb s' k' Z w' := by
  have h1 := h.next hn
  obtain ⟨g, hT, h0, hz⟩ := h.ex
  refine (hc g (hT.nx hn) (fun j hj => ?_)).mono ?_
  · rcases hj with hj | ⟨z, hm, rfl⟩
    · exact new_zero hT hj
    · exact hz z hm
  rintro e w' ⟨he, g', hT', hC, hle⟩
  have hs := h1.nx.size
  refine ⟨he, ⟨g', hT', fun j hj => ?_, fun z hm => ?_⟩, fun z hm => ?_, h.new, h.nd, ?_, hg⟩
  · rcases hle j hj with h2 | h2
    · exact h0 j h2
    · omega
  · refine Decidable.byContradiction fun x => ?_
    rcases hle z.1 x with h2 | h2
    · exact h2 (hz z hm)
    · have := h1.lt hm; omega
  · rw [hC.block z.1 (h1.lt hm) (fun e => e (hz z hm))]
    exact h1.at_ z hm
  · have c : Chd (fun _ => False) w w' := (Chd.of_below h1.nx).then_ hC (fun j hj e => by have := h0 j e; omega)
    exact c.below (Nat.le_refl _) (fun _ _ e => e)
theorem livz_tb {f : FuncId} {args : Array Value} {R : Ending → World → Prop} {s' : St} {k' : Nat} (h : LivZ w tb s k Z W) (hg : Good k' s')
    (hc : ∀ g, TreeAt W tb s g → Calls Tryz.prog f args W fun e w' => R e w' ∧ TreeAt w' tb s' g ∧ Chd (fun j => j = tb) W w') :
    Calls Tryz.prog f args W fun e w' => R e w' ∧ LivZ w tb s' k' Z w' := by
  obtain ⟨g, hT, h0, hz⟩ := h.ex
  refine (hc g hT).mono ?_
  rintro e w' ⟨he, hT', hC⟩
  have htb := hT.topT
  refine ⟨he, ⟨g, hT', h0, hz⟩, fun z hm => ?_, h.new, h.nd, ?_, hg⟩
  · rw [hC.block z.1 (h.lt hm) (fun e => by have := hz z hm; rw [e, htb] at this; omega)]
    exact h.at_ z hm
  · have c : Chd (fun _ => False) w w' := (Chd.of_below h.nx).then_ hC (fun j hj e => by
      have := h0 tb (by rw [htb]; omega)
      omega)
    exact c.below (Nat.le_refl _) (fun _ _ e => e)

theorem livz_make (h : LivZ w tb s k Z W) (hk : k + 1 ≤ 1000) (p : Str) (hp : p.length ≤ 10000) :
    Calls Tryz.prog 103 #[.pointer (some ⟨tb, 0, none⟩), .string (S p)] W fun e w' => e = .returned (.int .i64 (s.make p).2) ∧ LivZ w tb (s.make p).1 (k + 2) Z w' :=
  livz_of h (Nx.refl _) (h.good.make p hp) fun g hT _ => make_any W tb s g hk hT h.good.ok p hp
theorem livz_write (h : LivZ w tb s k Z W0) (hn : Nx W0 W) (hk : k + 1 ≤ 1000) (p : Str) (hp : p.length ≤ 10000) (A : Option Addr) (n c : Nat) (b : Str) (hb : Arg W A n c b) (hbl : b.length ≤ 10000) (hnil : A = none → c = 0) (hA : ∀ j o, A = some ⟨j, o, none⟩ → W0.heap.size ≤ j ∨ ∃ z ∈ Z, z.1 = j) :
    Calls Tryz.prog 105 #[.pointer (some ⟨tb, 0, none⟩), .string (S p), .slice A n c] W fun e w' => e = .returned (.int .i64 (s.write p b).2) ∧ LivZ w tb (s.write p b).1 (k + 2) Z w' :=
  livz_of h hn (h.good.write (by omega) p b hbl) fun g hT h0 => write_any W tb s g (by omega) hT h.good.ok p hp A n c b hb hbl hnil fun j o e => h0 j (hA j o e)
theorem livz_append (h : LivZ w tb s k Z W0) (hn : Nx W0 W) (hk : k + 1 ≤ 1000) (p : Str) (hp : p.length ≤ 10000) (A : Option Addr) (n c : Nat) (b : Str) (hb : Arg W A n c b) (hbl : b.length ≤ 10000) (hA : ∀ j o, A = some ⟨j, o, none⟩ → W0.heap.size ≤ j ∨ ∃ z ∈ Z, z.1 = j) :
    Calls Tryz.prog 50 #[.pointer (some ⟨tb, 0, none⟩), .string (S p), .slice A n c] W fun e w' => e = .returned (.int .i64 (s.append_ p b).2) ∧ LivZ w tb (s.append_ p b).1 (k + 2) Z w' :=
  livz_of h hn (h.good.append (by omega) p b hbl) fun g hT h0 => append_any W tb s g (by omega) hT h.good.ok p hp A n c b hb hbl fun j o e => h0 j (hA j o e)
theorem livz_sync (h : LivZ w tb s k Z W) (hk : k + 1 ≤ 1000) (p : Str) (hp : p.length ≤ 10000) :
    Calls Tryz.prog 62 #[.pointer (some ⟨tb, 0, none⟩), .string (S p)] W fun e w' => e = .returned (.int .i64 (s.sync p).2) ∧ LivZ w tb (s.sync p).1 (k + 2) Z w' :=
  livz_of h (Nx.refl _) (h.good.sync p) fun g hT _ => sync_any W tb s g (by omega) hT h.good.ok p hp
theorem livz_syncPaths (h : LivZ w tb s k Z W) (hk : k + 1 ≤ 1000) :
    Calls Tryz.prog 109 #[.pointer (some ⟨tb, 0, none⟩)] W fun e w' => e = .returned (.int .i64 s.syncPaths.2) ∧ LivZ w tb s.syncPaths.1 (k + 2) Z w' :=
  livz_of h (Nx.refl _) h.good.syncPaths fun g hT _ => syncPaths_any W tb s g (by omega) hT h.good.ok
theorem livz_rename (h : LivZ w tb s k Z W) (hk : k + 1 ≤ 1000) (p q : Str) (hp : p.length ≤ 10000) (hq : q.length ≤ 10000) :
    Calls Tryz.prog 108 #[.pointer (some ⟨tb, 0, none⟩), .string (S p), .string (S q)] W fun e w' => e = .returned (.int .i64 (s.rename p q).2) ∧ LivZ w tb (s.rename p q).1 (k + 2) Z w' :=
  livz_of h (Nx.refl _) (h.good.rename (by omega) p q hp hq) fun g hT _ => rename_any W tb s g hk hT h.good.ok p q hp hq
theorem livz_remove (h : LivZ w tb s k Z W) (hk : k + 1 ≤ 1000) (p : Str) (hp : p.length ≤ 10000) :
    Calls Tryz.prog 132 #[.pointer (some ⟨tb, 0, none⟩), .string (S p)] W fun e w' => e = .returned (.int .i64 (s.remove p).2) ∧ LivZ w tb (s.remove p).1 (k + 2) Z w' :=
  livz_of h (Nx.refl _) (h.good.remove (by omega) p hp) fun g hT _ => remove_any W tb s g hk hT h.good.ok p hp
theorem livz_crash (h : LivZ w tb s k Z W0) (hn : Nx W0 W) (hk : k + 1 ≤ 1000) (keep : Int) (hkeep : keep ≤ 9223372036854775807) (A : Option Addr) (n c : Nat) (parts : List Int) (hN : Nums W A n c parts) (hA : ∀ j o, A = some ⟨j, o, none⟩ → W0.heap.size ≤ j ∨ ∃ z ∈ Z, z.1 = j) :
    Calls Tryz.prog 36 #[.pointer (some ⟨tb, 0, none⟩), .int .i64 keep, .slice A n c] W fun e w' => e = .returned (.int .i64 0) ∧ LivZ w tb (s.crash keep parts) (k + 2) Z w' :=
  livz_of h hn (h.good.crash hk keep parts) fun g hT h0 => crash_any W tb s g hk hT h.good.ok h.good.sp.1 keep hkeep A n c parts hN fun j o e => h0 j (hA j o e)
theorem livz_fuse (h : LivZ w tb s k Z W) (n : Int) (hn : n ≤ 9223372036854775807) :
    Calls Tryz.prog 35 #[.pointer (some ⟨tb, 0, none⟩), .int .i64 n] W fun e w' => e = .returned (.int .i64 0) ∧ LivZ w tb (s.fuse_ n) k Z w' :=
  livz_tb h (h.good.fuse n hn) fun g hT => (fuse_any W tb s g hT n)
theorem livz_read (h : LivZ w tb s k Z W) (hk : k + 1 ≤ 1000) (p : Str) (hp : p.length ≤ 10000) :
    Calls Tryz.prog 72 #[.pointer (some ⟨tb, 0, none⟩), .string (S p)] W fun e w' => (∃ A n c, e = .returned (.tuple #[.slice A n c, .int .i64 (s.read p).2.2]) ∧ Own w' W.heap.size A n c (s.read p).2.1) ∧ LivZ w tb (s.read p).1 k Z w' :=
  livz_tb h (h.good.read p) fun g hT => (read_any W tb s g (by omega) hT h.good.ok p hp).mono fun e w' ⟨A, n, c, e1, e2, e3, e4⟩ => ⟨⟨A, n, c, e1, e2⟩, e3, e4⟩
theorem livz_stat (h : LivZ w tb s k Z W) (p : Str) (hp : p.length ≤ 10000) :
    Calls Tryz.prog 116 #[.pointer (some ⟨tb, 0, none⟩), .string (S p)] W fun e w' => e = .returned (.tuple #[.int .i64 (s.stat p).1, .int .u64 ((s.stat p).2.1 : Int), .bool (s.stat p).2.2]) ∧ ∃ m, w' = W.drewN m := by
  obtain ⟨g, hT, h0, hz⟩ := h.ex
  exact stat_any W tb s g hT h.good.ok p (by omega)
end

/-! ### A log in memory -/
def lptr (lb : Nat) : Value := .pointer (some ⟨lb, 0, none⟩)
def logC (tb : Nat) (L : Lg) : Array Value := #[.int .i64 L.e, .pointer (some ⟨tb, 0, none⟩), .string (S L.path), .int .i64 L.size, .int .i64 L.count]
def logO (tb : Nat) (L : Lg) : Obj := .cells (logC tb L) 74 (0, 0)
theorem LivZ.logAt {w W : World} {tb k lb : Nat} {s : St} {L : Lg} {Z : List (Nat × Obj)} (h : LivZ w tb s k ((lb, logO tb L) :: Z) W) : BlkIs W lb 74 (logC tb L) := h.at_ _ List.mem_cons_self
structure LogHas (W : World) (tb lb : Nat) (L : Lg) : Prop where
  c0 : W.cell? ⟨lb, 0, none⟩ = some (.int .i64 L.e)
  c1 : W.cell? ⟨lb, 1, none⟩ = some (.pointer (some ⟨tb, 0, none⟩))
  c2 : W.cell? ⟨lb, 2, none⟩ = some (.string (S L.path))
  c3 : W.cell? ⟨lb, 3, none⟩ = some (.int .i64 L.size)
  c4 : W.cell? ⟨lb, 4, none⟩ = some (.int .i64 L.count)
  fz : ∀ i, W.frozen? ⟨lb, i, none⟩ = false
theorem BlkIs.log {W : World} {tb lb : Nat} {L : Lg} (h : BlkIs W lb 74 (logC tb L)) : LogHas W tb lb L :=
  ⟨by rw [h.cell]; rfl, by rw [h.cell]; rfl, by rw [h.cell]; rfl, by rw [h.cell]; rfl, by rw [h.cell]; rfl, fun i => h.frozen i⟩
end Go.Proofs.YtiikjdjpodmpcaaGreat

/- Package wal: path.Temp; temp, has, clean of a log. -/
namespace Go.Proofs.YtiikjdjpodmpcaaGreat
open Go.RowKit Go.Maps
set_option linter.unusedVariables false

theorem with_tmp (w : World) (b : List UInt8) (hb : b.length ≤ 1000000000000) :
    Calls Tryz.prog 148 #[.string ⟨#[46, 116, 109, 112]⟩, .string (S b)] w fun e w' => e = .returned (.string (S (tmpOf b))) ∧ w = w' := by
  have hsz2 := S_size b
  have hx : (⟨#[46, 116, 109, 112]⟩ : ByteArray) ++ ⟨#[47]⟩ ++ S b = S (tmpOf b) := by
    have : (⟨#[46, 116, 109, 112]⟩ : ByteArray) = S [46, 116, 109, 112] := rfl
    have h2 : (⟨#[47]⟩ : ByteArray) = S [47] := rfl
    rw [this, h2, S_append, S_append]
    rfl
  have Hx := Lib.hid hx
  clear hx
  go_enter Tryz.func148, Tryz.ntmps148
  go_wp2
  go_ret
  rw [← Hx.out]
  exact ⟨rfl, rfl⟩
theorem isPath_len {l : Str} (h : isPath l = true) : l.length ≤ 64 := (path_parts h).len
theorem tmpOf_len {l : Str} (h : isPath l = true) : (tmpOf l).length ≤ 69 := by
  have := isPath_len h
  unfold tmpOf tempL
  simp
  omega
theorem temp_any (w : World) (l : List UInt8) (e1 : isPath l = true) :
    Calls Tryz.prog 131 #[.string (S l)] w fun e w' => e = .returned (.tuple #[.string (S (tmpOf l)), .int .i64 0]) ∧ Nx w w' := by
  have X := Lib.hid (check_any w l)
  have h0 : chk l = 0 := chk_zero.2 e1
  rw [h0] at X
  have hl := isPath_len e1
  have Y := Lib.hid (fun W => with_tmp W l (by omega))
  clear e1 h0 hl
  generalize S (tmpOf l) = t at *
  generalize S l = s at *
  go_enter Tryz.func131, Tryz.ntmps131
  go_wp2_with fail
  refine X.out.mono ?_
  rintro e w1 ⟨rfl, hb1⟩
  have H1 := Lib.hid hb1
  clear hb1 X
  go_wp2_with fail
  refine (Y.out w1).mono ?_
  rintro e w2 ⟨rfl, rfl⟩
  go_wp2
  go_ret2
  exact ⟨rfl, H1.out⟩

section
variable {w W : World} {tb lb k : Nat} {s : St} {L : Lg} {Z : List (Nat × Obj)}
theorem ltemp_any (hl : LogHas W tb lb L) (e1 : isPath L.path = true) :
    Calls Tryz.prog 100 #[.pointer (some ⟨lb, 0, none⟩)] W fun e w' => e = .returned (.string (S (tmpOf L.path))) ∧ Nx W w' := by
  have X := Lib.hid (fun W => temp_any W L.path e1)
  have c2 := hl.c2
  clear hl e1
  generalize S L.path = sp at *
  generalize S (tmpOf L.path) = st at *
  go_enter Tryz.func100, Tryz.ntmps100
  go_wp2_with fail
  refine (X.out W).mono ?_
  rintro e w1 ⟨rfl, hb⟩
  have H := Lib.hid hb
  clear hb X
  go_wp2
  go_ret
  exact ⟨rfl, H.out⟩
theorem lhas_any (h : LivZ w tb s k Z W) (hl : LogHas W tb lb L) (p : Str) (hp : p.length ≤ 10000) :
    Calls Tryz.prog 75 #[.pointer (some ⟨lb, 0, none⟩), .string (S p)] W fun e w' => e = .returned (.bool (s.stat p).2.2) ∧ ∃ m, w' = W.drewN m := by
  have X := Lib.hid (livz_stat h p hp)
  have c1 := hl.c1
  clear hl h
  generalize s.stat p = r at *
  obtain ⟨r1, r2, r3⟩ := r
  generalize S p = sp at *
  simp only at *
  go_enter Tryz.func75, Tryz.ntmps75
  go_wp2_with fail
  refine X.out.mono ?_
  rintro e w1 ⟨rfl, hb⟩
  have H := Lib.hid hb
  clear hb X
  go_wp2
  go_ret
  exact ⟨rfl, H.out⟩
theorem lclean_any (h : LivZ w tb s k ((lb, logO tb L) :: Z) W) (hk : k + 1 ≤ 1000) (e1 : isPath L.path = true) :
    Calls Tryz.prog 101 #[.pointer (some ⟨lb, 0, none⟩)] W fun e w' => e = .returned (.int .i64 (cleanS (tmpOf L.path) s).2) ∧ LivZ w tb (cleanS (tmpOf L.path) s).1 (k + 2) ((lb, logO tb L) :: Z) w' := by
  have hlen := tmpOf_len e1
  have X := Lib.hid (ltemp_any h.logAt.log e1)
  have Y : Hid (∀ W2, Nx W W2 → Calls Tryz.prog 75 #[.pointer (some ⟨lb, 0, none⟩), .string (S (tmpOf L.path))] W2 fun e w' => e = .returned (.bool (s.stat (tmpOf L.path)).2.2) ∧ Nx W w') := fun W2 hn =>
    (lhas_any (h.next hn) (h.next hn).logAt.log (tmpOf L.path) (by omega)).mono fun e w' ⟨e1, m, e2⟩ => ⟨e1, by rw [e2]; exact Nx.drewN hn m⟩
  have R : Hid (∀ W2, Nx W W2 → LogHas W2 tb lb L ∧ Calls Tryz.prog 132 #[.pointer (some ⟨tb, 0, none⟩), .string (S (tmpOf L.path))] W2 fun e w' => e = .returned (.int .i64 (s.remove (tmpOf L.path)).2) ∧ LivZ w tb (s.remove (tmpOf L.path)).1 (k + 2) ((lb, logO tb L) :: Z) w') := fun W2 hn =>
    ⟨(h.next hn).logAt.log, livz_remove (h.next hn) hk (tmpOf L.path) (by omega)⟩
  have N : Hid (∀ W2, Nx W W2 → LivZ w tb s (k + 2) ((lb, logO tb L) :: Z) W2) := fun W2 hn => (h.next hn).up (by omega)
  unfold cleanS
  generalize hst : s.stat (tmpOf L.path) = r at *
  obtain ⟨r1, r2, r3⟩ := r
  clear h e1 hlen hst
  generalize S (tmpOf L.path) = st at *
  simp only at *
  cases r3 with
  | true =>
    rw [if_pos rfl]
    generalize s.remove (tmpOf L.path) = q at *
    obtain ⟨q1, q2⟩ := q
    simp only at *
    go_enter Tryz.func101, Tryz.ntmps101
    go_wp2_with fail
    refine X.out.mono ?_
    rintro e w1 ⟨rfl, hb⟩
    have H1 := Lib.hid hb
    clear hb X
    go_wp2_with fail
    refine (Y.out w1 H1.out).mono ?_
    rintro e w2 ⟨rfl, hb⟩
    have H2 := Lib.hid hb
    have c1 := (R.out w2 H2.out).1.c1
    clear hb Y
    go_wp2_with fail
    refine (R.out w2 H2.out).2.mono ?_
    rintro e w3 ⟨rfl, hb⟩
    have H3 := Lib.hid hb
    clear hb R
    go_wp2
    go_ret
    exact ⟨rfl, H3.out⟩
  | false =>
    rw [if_neg (by decide)]
    go_enter Tryz.func101, Tryz.ntmps101
    go_wp2_with fail
    refine X.out.mono ?_
    rintro e w1 ⟨rfl, hb⟩
    have H1 := Lib.hid hb
    clear hb X
    go_wp2_with fail
    refine (Y.out w1 H1.out).mono ?_
    rintro e w2 ⟨rfl, hb⟩
    have H2 := Lib.hid hb
    clear hb Y
    go_wp2
    go_ret
    exact ⟨rfl, N.out w2 H2.out⟩
end
end Go.Proofs.YtiikjdjpodmpcaaGreat

/- Package wal: do, which executes steps. -/
namespace Go.Proofs.YtiikjdjpodmpcaaGreat
open Go.RowKit Go.Maps
set_option linter.unusedVariables false

/-- The functions that are steps. -/
def stepFn (fn : FuncId) : Prop := fn = 101 ∨ fn = 102 ∨ fn = 104 ∨ fn = 106 ∨ fn = 107 ∨ fn = 109 ∨ fn = 60 ∨ fn = 61
/-- A function value whose call is a step. -/
def StepV (w : World) (tb : Nat) (Z : List (Nat × Obj)) (v : Value) (f : Stp) : Prop :=
  ∃ fn b c, v = .func (.func fn) b c ∧ stepFn fn ∧ ∀ W s k, LivZ w tb s k Z W → k + 1 ≤ 1000 → Calls Tryz.prog fn (b ++ c) W fun e w' => e = .returned (.int .i64 (f s).2) ∧ LivZ w tb (f s).1 (k + 2) Z w'
def fnsO (vs : List Value) : Obj := .cells vs.toArray 60 (0, 0)

set_option maxRecDepth 100000 in
set_option maxHeartbeats 4000000 in
theorem do_any (w W : World) (tb lb k : Nat) (s : St) (L : Lg) (Z : List (Nat × Obj)) (fs : List Stp) (vs : List Value) (rb n : Nat)
    (h : LivZ w tb s k ((lb, logO tb L) :: Z) W) (hrow : (rb, fnsO vs) ∈ Z) (hv : vs.length = n) (hf : fs.length = n) (hn : n ≤ 6) (hk : k + 2 * n ≤ 1000)
    (hst : ∀ (i : Nat) (v : Value) (f : Stp), vs[i]? = some v → fs[i]? = some f → StepV w tb ((lb, logO tb { L with e := 0 }) :: Z) v f) :
    Calls Tryz.prog 59 #[.pointer (some ⟨lb, 0, none⟩), .slice (some ⟨rb, 0, none⟩) n n] W fun e w' => e = .returned (.int .i64 (doS fs s L.e).2) ∧ LivZ w tb (doS fs s L.e).1 (k + 2 * n) ((lb, logO tb { L with e := (doS fs s L.e).2 }) :: Z) w' := by
  have HV := Lib.hid hv
  have HF := Lib.hid hf
  have HK := Lib.hid hk
  have HR := Lib.hid hrow
  have H := Lib.hid h
  have HS := Lib.hid hst
  clear h hrow hst hk hv hf
  have i1 : (n : Int) ≤ 6 := by omega
  go_enter Tryz.func59, Tryz.ntmps59
  go_wp2
  go_loopw [9] (fun x wr => ∃ i : Nat, x = .int .i64 i ∧ i ≤ n ∧ Hid (LivZ w tb (doS (fs.take i) s L.e).1 (k + 2 * i) ((lb, logO tb { L with e := (doS (fs.take i) s L.e).2 }) :: Z) wr)) (fun x _ => n - (intOf x).toNat)
  case atStart => exact ⟨0, rfl, Nat.zero_le _, H.out⟩
  case round =>
    obtain ⟨i, rfl, hi, hm⟩ := hrel
    by_cases hlt : i < n
    · have hvl := HV.out
      have hfl := HF.out
      obtain ⟨v, hv⟩ : ∃ v, vs[i]? = some v := ⟨_, List.getElem?_eq_getElem (show i < vs.length by omega)⟩
      obtain ⟨f, hf⟩ : ∃ f, fs[i]? = some f := ⟨_, List.getElem?_eq_getElem (show i < fs.length by omega)⟩
      obtain ⟨fn, b, c, rfl, hfn, hrun⟩ := HS.out i v f hv hf
      have hcell : wr.cell? ⟨rb, i, none⟩ = some (.func (.func fn) b c) := by
        have hb : BlkIs wr rb 60 vs.toArray := hm.out.blk (List.mem_cons_of_mem _ HR.out)
        rw [hb.cell]
        simpa using hv
      have hd := doS_take fs i f hf s L.e
      have c0 := hm.out.logAt.log.c0
      have f0 := hm.out.logAt.log.fz 0
      generalize hD1 : doS (fs.take (i + 1)) s L.e = D1 at *
      generalize hD : doS (fs.take i) s L.e = D at *
      obtain ⟨s1, e1⟩ := D
      simp only at *
      by_cases h0 : e1 = 0
      · subst h0
        rw [if_pos rfl] at hd
        subst hd
        have hrun2 := hrun wr s1 (k + 2 * i) hm.out (by have := HK.out; omega)
        have HX := Lib.hid hrun2
        have hD1' := Lib.hid hD1
        clear hrun hrun2 hv hf hD hD1 hvl hfl hm
        generalize hq : f s1 = q at *
        obtain ⟨s2, e2⟩ := q
        simp only at *
        rcases hfn with rfl | rfl | rfl | rfl | rfl | rfl | rfl | rfl <;> (
          go_wp2_with fail
          refine HX.out.mono ?_
          rintro e w2 ⟨rfl, hl⟩
          have HL := Lib.hid hl
          have f0 := hl.logAt.log.fz 0
          have c0 := hl.logAt.log.c0
          clear hl HX
          go_wp2
          have HM := Lib.hid (HL.out.set 0 (.int .i64 e2))
          go_roundw
          case rel => exact ⟨i + 1, by go_num, by omega, by rw [hD1'.out]; exact HM.out⟩
          case measure => simp [intOf]; omega)
      · rw [if_neg h0] at hd
        subst hd
        have HM := hm
        have hD1' := Lib.hid hD1
        clear hrun hv hf hD hD1 hvl hfl hm hfn
        go_wp2
        go_roundw
        case rel => exact ⟨i + 1, by go_num, by omega, by rw [hD1'.out]; exact HM.out.up (by omega)⟩
        case measure => simp [intOf]; omega
    · obtain rfl : i = n := by omega
      have e1 : fs.take i = fs := List.take_of_length_le (by have := HF.out; omega)
      rw [e1] at hm
      have c0 := hm.out.logAt.log.c0
      have HM := hm
      clear hm e1
      generalize hD : doS fs s L.e = D at *
      have HD := Lib.hid hD
      clear hD
      obtain ⟨s1, e1⟩ := D
      simp only at c0
      go_wp2
      go_ret
      rw [HD.out]
      exact ⟨rfl, HM.out⟩
end Go.Proofs.YtiikjdjpodmpcaaGreat

/- Package wal: the function literals that are steps. -/
namespace Go.Proofs.YtiikjdjpodmpcaaGreat
open Go.RowKit Go.Maps
set_option linter.unusedVariables false

theorem LivZ.drew {w W : World} {tb k : Nat} {s : St} {Z : List (Nat × Obj)} (h : LivZ w tb s k Z W) : LivZ w tb s k Z W.drew := h.next (Nx.drew (Nx.refl _))
def boxO (t : TypeId) (v : Value) : Obj := .cells #[v] t (0, 0)
theorem LivZ.box {w W : World} {tb k b : Nat} {s : St} {Z : List (Nat × Obj)} {t : TypeId} {v : Value} (h : LivZ w tb s k Z W) (hm : (b, boxO t v) ∈ Z) : W.cell? ⟨b, 0, none⟩ = some v := by
  have hb : BlkIs W b t #[v] := h.at_ _ hm
  rw [hb.cell]
  rfl
theorem arg_in {Z0 : List (Nat × Obj)} {z0 : Nat × Obj} {W : World} {A : Option Addr} {n c : Nat} {b : Str} (hA : A = none ∧ n = 0 ∧ c = 0 ∧ b = [] ∨ ∃ j o, A = some ⟨j, 0, none⟩ ∧ (j, o) ∈ Z0) : ∀ j o, A = some ⟨j, o, none⟩ → W.heap.size ≤ j ∨ ∃ z ∈ z0 :: Z0, z.1 = j := fun j o e => by
  rcases hA with ⟨h1, _⟩ | ⟨j2, o2, h1, h2⟩
  · rw [h1] at e; cases e
  · rw [h1] at e
    simp only [Option.some.injEq, Addr.mk.injEq] at e
    exact .inr ⟨_, List.mem_cons_of_mem _ h2, e.1⟩
theorem stepv_clean {w : World} {tb lb : Nat} {L : Lg} {Z0 : List (Nat × Obj)} (e1 : isPath L.path = true) :
    StepV w tb ((lb, logO tb L) :: Z0) (.func (.func 101) #[.pointer (some ⟨lb, 0, none⟩)] #[]) (cleanS (tmpOf L.path)) :=
  ⟨_, _, _, rfl, .inl rfl, fun W s k h hk => lclean_any h hk e1⟩
theorem stepv_syncPaths {w : World} {tb : Nat} {Z : List (Nat × Obj)} :
    StepV w tb Z (.func (.func 109) #[.pointer (some ⟨tb, 0, none⟩)] #[]) (fun s => s.syncPaths) :=
  ⟨_, _, _, rfl, .inr (.inr (.inr (.inr (.inr (.inl rfl))))), fun W s k h hk => livz_syncPaths h hk⟩

set_option maxRecDepth 100000 in
set_option maxHeartbeats 2000000 in
theorem stepv_make {w : World} {tb lb bl bt : Nat} {L : Lg} {Z0 : List (Nat × Obj)} {tp : Str} (htp : tp.length ≤ 10000) (h_bl : (bl, boxO 28 (.pointer (some ⟨lb, 0, none⟩))) ∈ Z0) (h_bt : (bt, boxO 9 (.string (S tp))) ∈ Z0) :
    StepV w tb ((lb, logO tb L) :: Z0) (.func (.func 102) #[] #[.pointer (some ⟨bl, 0, none⟩), .pointer (some ⟨bt, 0, none⟩)]) (fun s => s.make tp) := by
  refine ⟨_, _, _, rfl, .inr (.inl rfl), fun W s k h hk => ?_⟩
  have X := Lib.hid (livz_make h.drew hk tp htp)
  have NF : Hid (∀ (s' : St) (k' : Nat) (W' : World), LivZ w tb s' k' ((lb, logO tb L) :: Z0) W' → (fun W => W.cell? ⟨lb, 1, none⟩ = some (.pointer (some ⟨tb, 0, none⟩)) ∧ W.cell? ⟨bl, 0, none⟩ = some (.pointer (some ⟨lb, 0, none⟩)) ∧ W.cell? ⟨bt, 0, none⟩ = some (.string (S tp))) W') := fun s' k' W' h' => ⟨h'.logAt.log.c1, h'.box (List.mem_cons_of_mem _ h_bl), h'.box (List.mem_cons_of_mem _ h_bt)⟩
  have FS := Lib.hid (NF.out s k W.drew h.drew)
  clear h h_bl h_bt
  change Calls _ _ #[.pointer (some ⟨bl, 0, none⟩), .pointer (some ⟨bt, 0, none⟩)] W _
  go_enter Tryz.func102, Tryz.ntmps102
  go_upto_region 1 with fail
  refine wp_region_held_drew (S := (fun W => W.cell? ⟨lb, 1, none⟩ = some (.pointer (some ⟨tb, 0, none⟩)) ∧ W.cell? ⟨bl, 0, none⟩ = some (.pointer (some ⟨lb, 0, none⟩)) ∧ W.cell? ⟨bt, 0, none⟩ = some (.string (S tp)))) (by kernel_rfl) FS.out (fun hHeld => ?_)
  change wpAnyH _ _ _ _ _ 7 (Array.replicate 7 false) _ _
  refine wpAnyH_take (i := 0) (oi := { dst := some 3, op := Op.load 28 (Operand.tmp 0), type := 28, pos := "file.go:42", after := #[], guard := none }) (v := ?vmake0) rfl (by kernel_rfl) (by kernel_rfl) (by kernel_rfl) (fun _ _ _ h => h) (Or.inl ⟨by rfl, ?hymake0⟩) hHeld ?restmake0
  case hymake0 =>
    intro W hSw
    have x0 := hSw.1
    have x1 := hSw.2.1
    have x2 := hSw.2.2
    go_simp
    try with_reducible rfl
  try simp only [Act.put, List.setIfInBounds_toArray, List.set_cons_zero, List.set_cons_succ]
  refine wpAnyH_take (i := 1) (oi := { dst := some 4, op := Op.nilCheck (Operand.tmp 3), type := 0, pos := "file.go:42", after := #[{ on := 0, ground := Ground.data }], guard := none }) (v := ?vmake1) rfl (by kernel_rfl) (by kernel_rfl) (by kernel_rfl) (fun _ _ _ h => h) (Or.inl ⟨by rfl, ?hymake1⟩) hHeld ?restmake1
  case hymake1 =>
    intro W hSw
    have x0 := hSw.1
    have x1 := hSw.2.1
    have x2 := hSw.2.2
    go_simp
    try with_reducible rfl
  try simp only [Act.put, List.setIfInBounds_toArray, List.set_cons_zero, List.set_cons_succ]
  refine wpAnyH_take (i := 2) (oi := { dst := some 5, op := Op.fieldAddr 74 (Operand.tmp 4) 1, type := 0, pos := "file.go:42", after := #[{ on := 1, ground := Ground.data }], guard := none }) (v := ?vmake2) rfl (by kernel_rfl) (by kernel_rfl) (by kernel_rfl) (fun _ _ _ h => h) (Or.inl ⟨by rfl, ?hymake2⟩) hHeld ?restmake2
  case hymake2 =>
    intro W hSw
    have x0 := hSw.1
    have x1 := hSw.2.1
    have x2 := hSw.2.2
    go_simp
    try with_reducible rfl
  try simp only [Act.put, List.setIfInBounds_toArray, List.set_cons_zero, List.set_cons_succ]
  refine wpAnyH_take (i := 3) (oi := { dst := some 6, op := Op.load 40 (Operand.tmp 5), type := 40, pos := "file.go:42", after := #[{ on := 2, ground := Ground.data }], guard := none }) (v := ?vmake3) rfl (by kernel_rfl) (by kernel_rfl) (by kernel_rfl) (fun _ _ _ h => h) (Or.inl ⟨by rfl, ?hymake3⟩) hHeld ?restmake3
  case hymake3 =>
    intro W hSw
    have x0 := hSw.1
    have x1 := hSw.2.1
    have x2 := hSw.2.2
    go_simp
    try with_reducible rfl
  try simp only [Act.put, List.setIfInBounds_toArray, List.set_cons_zero, List.set_cons_succ]
  refine wpAnyH_take (i := 4) (oi := { dst := some 7, op := Op.load 9 (Operand.tmp 1), type := 9, pos := "file.go:42", after := #[], guard := none }) (v := ?vmake4) rfl (by kernel_rfl) (by kernel_rfl) (by kernel_rfl) (fun _ _ _ h => h) (Or.inl ⟨by rfl, ?hymake4⟩) hHeld ?restmake4
  case hymake4 =>
    intro W hSw
    have x0 := hSw.1
    have x1 := hSw.2.1
    have x2 := hSw.2.2
    go_simp
    try with_reducible rfl
  try simp only [Act.put, List.setIfInBounds_toArray, List.set_cons_zero, List.set_cons_succ]
  refine wpAnyH_ready (rs := [5]) (by kernel_rfl) (by simp) ?_
  refine AllReadyH.cons (o := { dst := some 8, op := Op.call { callee := Callee.value (Operand.func 103), args := #[Operand.tmp 6, Operand.tmp 7], argTypes := #[40, 9] }, type := 25, pos := "file.go:42", after := #[{ on := 3, ground := Ground.data }, { on := 4, ground := Ground.data }], guard := none }) rfl (fun K' hK => ?_) AllReadyH.nil
  go_simp
  refine X.out.mono ?_
  rintro e w2 ⟨rfl, hl⟩
  have HL := Lib.hid hl
  clear hl
  show K' _ w2
  refine hK.out _ _ (NF.out _ _ w2 HL.out) (fun hHeld => ?_)
  clear hK K'
  try simp only [Act.put, List.setIfInBounds_toArray, List.set_cons_zero, List.set_cons_succ]
  refine wpAnyH_take (i := 6) (oi := { dst := some 2, op := Op.assign (Operand.tmp 8), type := 25, pos := "file.go:42", after := #[{ on := 5, ground := Ground.data }, { on := 5, ground := Ground.chain }, { on := 0, ground := Ground.phase }, { on := 1, ground := Ground.phase }, { on := 2, ground := Ground.phase }, { on := 3, ground := Ground.phase }, { on := 4, ground := Ground.phase }, { on := 5, ground := Ground.phase }], guard := none }) (v := ?vmake6) rfl (by kernel_rfl) (by kernel_rfl) (by kernel_rfl) (fun _ _ _ h => h) (Or.inl ⟨by rfl, ?hymake6⟩) hHeld ?restmake6
  case hymake6 =>
    intro W hSw
    have x0 := hSw.1
    have x1 := hSw.2.1
    have x2 := hSw.2.2
    go_simp
    try with_reducible rfl
  try simp only [Act.put, List.setIfInBounds_toArray, List.set_cons_zero, List.set_cons_succ]
  refine wpAnyH_done (by kernel_rfl) ?_ _
  go_wp2
  go_ret
  exact ⟨rfl, HL.out⟩

set_option maxRecDepth 100000 in
set_option maxHeartbeats 2000000 in
theorem stepv_write {w : World} {tb lb bl bt bb : Nat} {L : Lg} {Z0 : List (Nat × Obj)} {tp b : Str} {A : Option Addr} {n c : Nat} (htp : tp.length ≤ 10000) (hA : A = none ∧ n = 0 ∧ c = 0 ∧ b = [] ∨ ∃ j o, A = some ⟨j, 0, none⟩ ∧ (j, o) ∈ Z0) (hb : ∀ W, (∀ z ∈ Z0, W.heap[z.1]? = some z.2) → Arg W A n c b) (hbl : b.length ≤ 10000) (h_bl : (bl, boxO 28 (.pointer (some ⟨lb, 0, none⟩))) ∈ Z0) (h_bt : (bt, boxO 9 (.string (S tp))) ∈ Z0) (h_bb : (bb, boxO 22 (.slice A n c)) ∈ Z0) :
    StepV w tb ((lb, logO tb L) :: Z0) (.func (.func 104) #[] #[.pointer (some ⟨bl, 0, none⟩), .pointer (some ⟨bt, 0, none⟩), .pointer (some ⟨bb, 0, none⟩)]) (fun s => s.write tp b) := by
  refine ⟨_, _, _, rfl, .inr (.inr (.inl rfl)), fun W s k h hk => ?_⟩
  have X := Lib.hid (livz_write h.drew (Nx.refl _) hk tp htp A n c b (hb _ fun z hz => h.drew.at_ z (List.mem_cons_of_mem _ hz)) hbl (fun e => by rcases hA with h1 | ⟨j, o, h1, _⟩ <;> simp_all) (arg_in hA))
  have NF : Hid (∀ (s' : St) (k' : Nat) (W' : World), LivZ w tb s' k' ((lb, logO tb L) :: Z0) W' → (fun W => W.cell? ⟨lb, 1, none⟩ = some (.pointer (some ⟨tb, 0, none⟩)) ∧ W.cell? ⟨bl, 0, none⟩ = some (.pointer (some ⟨lb, 0, none⟩)) ∧ W.cell? ⟨bt, 0, none⟩ = some (.string (S tp)) ∧ W.cell? ⟨bb, 0, none⟩ = some (.slice A n c)) W') := fun s' k' W' h' => ⟨h'.logAt.log.c1, h'.box (List.mem_cons_of_mem _ h_bl), h'.box (List.mem_cons_of_mem _ h_bt), h'.box (List.mem_cons_of_mem _ h_bb)⟩
  have FS := Lib.hid (NF.out s k W.drew h.drew)
  clear h h_bl h_bt h_bb
  change Calls _ _ #[.pointer (some ⟨bl, 0, none⟩), .pointer (some ⟨bt, 0, none⟩), .pointer (some ⟨bb, 0, none⟩)] W _
  go_enter Tryz.func104, Tryz.ntmps104
  go_upto_region 1 with fail
  refine wp_region_held_drew (S := (fun W => W.cell? ⟨lb, 1, none⟩ = some (.pointer (some ⟨tb, 0, none⟩)) ∧ W.cell? ⟨bl, 0, none⟩ = some (.pointer (some ⟨lb, 0, none⟩)) ∧ W.cell? ⟨bt, 0, none⟩ = some (.string (S tp)) ∧ W.cell? ⟨bb, 0, none⟩ = some (.slice A n c))) (by kernel_rfl) FS.out (fun hHeld => ?_)
  change wpAnyH _ _ _ _ _ 8 (Array.replicate 8 false) _ _
  refine wpAnyH_take (i := 0) (oi := { dst := some 4, op := Op.load 28 (Operand.tmp 0), type := 28, pos := "file.go:43", after := #[], guard := none }) (v := ?vwrite0) rfl (by kernel_rfl) (by kernel_rfl) (by kernel_rfl) (fun _ _ _ h => h) (Or.inl ⟨by rfl, ?hywrite0⟩) hHeld ?restwrite0
  case hywrite0 =>
    intro W hSw
    have x0 := hSw.1
    have x1 := hSw.2.1
    have x2 := hSw.2.2.1
    have x3 := hSw.2.2.2
    go_simp
    try with_reducible rfl
  try simp only [Act.put, List.setIfInBounds_toArray, List.set_cons_zero, List.set_cons_succ]
  refine wpAnyH_take (i := 1) (oi := { dst := some 5, op := Op.nilCheck (Operand.tmp 4), type := 0, pos := "file.go:43", after := #[{ on := 0, ground := Ground.data }], guard := none }) (v := ?vwrite1) rfl (by kernel_rfl) (by kernel_rfl) (by kernel_rfl) (fun _ _ _ h => h) (Or.inl ⟨by rfl, ?hywrite1⟩) hHeld ?restwrite1
  case hywrite1 =>
    intro W hSw
    have x0 := hSw.1
    have x1 := hSw.2.1
    have x2 := hSw.2.2.1
    have x3 := hSw.2.2.2
    go_simp
    try with_reducible rfl
  try simp only [Act.put, List.setIfInBounds_toArray, List.set_cons_zero, List.set_cons_succ]
  refine wpAnyH_take (i := 2) (oi := { dst := some 6, op := Op.fieldAddr 74 (Operand.tmp 5) 1, type := 0, pos := "file.go:43", after := #[{ on := 1, ground := Ground.data }], guard := none }) (v := ?vwrite2) rfl (by kernel_rfl) (by kernel_rfl) (by kernel_rfl) (fun _ _ _ h => h) (Or.inl ⟨by rfl, ?hywrite2⟩) hHeld ?restwrite2
  case hywrite2 =>
    intro W hSw
    have x0 := hSw.1
    have x1 := hSw.2.1
    have x2 := hSw.2.2.1
    have x3 := hSw.2.2.2
    go_simp
    try with_reducible rfl
  try simp only [Act.put, List.setIfInBounds_toArray, List.set_cons_zero, List.set_cons_succ]
  refine wpAnyH_take (i := 3) (oi := { dst := some 7, op := Op.load 40 (Operand.tmp 6), type := 40, pos := "file.go:43", after := #[{ on := 2, ground := Ground.data }], guard := none }) (v := ?vwrite3) rfl (by kernel_rfl) (by kernel_rfl) (by kernel_rfl) (fun _ _ _ h => h) (Or.inl ⟨by rfl, ?hywrite3⟩) hHeld ?restwrite3
  case hywrite3 =>
    intro W hSw
    have x0 := hSw.1
    have x1 := hSw.2.1
    have x2 := hSw.2.2.1
    have x3 := hSw.2.2.2
    go_simp
    try with_reducible rfl
  try simp only [Act.put, List.setIfInBounds_toArray, List.set_cons_zero, List.set_cons_succ]
  refine wpAnyH_take (i := 4) (oi := { dst := some 8, op := Op.load 9 (Operand.tmp 1), type := 9, pos := "file.go:43", after := #[], guard := none }) (v := ?vwrite4) rfl (by kernel_rfl) (by kernel_rfl) (by kernel_rfl) (fun _ _ _ h => h) (Or.inl ⟨by rfl, ?hywrite4⟩) hHeld ?restwrite4
  case hywrite4 =>
    intro W hSw
    have x0 := hSw.1
    have x1 := hSw.2.1
    have x2 := hSw.2.2.1
    have x3 := hSw.2.2.2
    go_simp
    try with_reducible rfl
  try simp only [Act.put, List.setIfInBounds_toArray, List.set_cons_zero, List.set_cons_succ]
  refine wpAnyH_take (i := 5) (oi := { dst := some 9, op := Op.load 22 (Operand.tmp 2), type := 22, pos := "file.go:43", after := #[], guard := none }) (v := ?vwrite5) rfl (by kernel_rfl) (by kernel_rfl) (by kernel_rfl) (fun _ _ _ h => h) (Or.inl ⟨by rfl, ?hywrite5⟩) hHeld ?restwrite5
  case hywrite5 =>
    intro W hSw
    have x0 := hSw.1
    have x1 := hSw.2.1
    have x2 := hSw.2.2.1
    have x3 := hSw.2.2.2
    go_simp
    try with_reducible rfl
  try simp only [Act.put, List.setIfInBounds_toArray, List.set_cons_zero, List.set_cons_succ]
  refine wpAnyH_ready (rs := [6]) (by kernel_rfl) (by simp) ?_
  refine AllReadyH.cons (o := { dst := some 10, op := Op.call { callee := Callee.value (Operand.func 105), args := #[Operand.tmp 7, Operand.tmp 8, Operand.tmp 9], argTypes := #[40, 9, 22] }, type := 25, pos := "file.go:43", after := #[{ on := 3, ground := Ground.data }, { on := 4, ground := Ground.data }, { on := 5, ground := Ground.data }], guard := none }) rfl (fun K' hK => ?_) AllReadyH.nil
  go_simp
  refine X.out.mono ?_
  rintro e w2 ⟨rfl, hl⟩
  have HL := Lib.hid hl
  clear hl
  show K' _ w2
  refine hK.out _ _ (NF.out _ _ w2 HL.out) (fun hHeld => ?_)
  clear hK K'
  try simp only [Act.put, List.setIfInBounds_toArray, List.set_cons_zero, List.set_cons_succ]
  refine wpAnyH_take (i := 7) (oi := { dst := some 3, op := Op.assign (Operand.tmp 10), type := 25, pos := "file.go:43", after := #[{ on := 6, ground := Ground.data }, { on := 6, ground := Ground.chain }, { on := 0, ground := Ground.phase }, { on := 1, ground := Ground.phase }, { on := 2, ground := Ground.phase }, { on := 3, ground := Ground.phase }, { on := 4, ground := Ground.phase }, { on := 5, ground := Ground.phase }, { on := 6, ground := Ground.phase }], guard := none }) (v := ?vwrite7) rfl (by kernel_rfl) (by kernel_rfl) (by kernel_rfl) (fun _ _ _ h => h) (Or.inl ⟨by rfl, ?hywrite7⟩) hHeld ?restwrite7
  case hywrite7 =>
    intro W hSw
    have x0 := hSw.1
    have x1 := hSw.2.1
    have x2 := hSw.2.2.1
    have x3 := hSw.2.2.2
    go_simp
    try with_reducible rfl
  try simp only [Act.put, List.setIfInBounds_toArray, List.set_cons_zero, List.set_cons_succ]
  refine wpAnyH_done (by kernel_rfl) ?_ _
  go_wp2
  go_ret
  exact ⟨rfl, HL.out⟩

set_option maxRecDepth 100000 in
set_option maxHeartbeats 2000000 in
theorem stepv_sync {w : World} {tb lb bl bt : Nat} {L : Lg} {Z0 : List (Nat × Obj)} {tp : Str} (htp : tp.length ≤ 10000) (h_bl : (bl, boxO 28 (.pointer (some ⟨lb, 0, none⟩))) ∈ Z0) (h_bt : (bt, boxO 9 (.string (S tp))) ∈ Z0) :
    StepV w tb ((lb, logO tb L) :: Z0) (.func (.func 106) #[] #[.pointer (some ⟨bl, 0, none⟩), .pointer (some ⟨bt, 0, none⟩)]) (fun s => s.sync tp) := by
  refine ⟨_, _, _, rfl, .inr (.inr (.inr (.inl rfl))), fun W s k h hk => ?_⟩
  have X := Lib.hid (livz_sync h.drew hk tp htp)
  have NF : Hid (∀ (s' : St) (k' : Nat) (W' : World), LivZ w tb s' k' ((lb, logO tb L) :: Z0) W' → (fun W => W.cell? ⟨lb, 1, none⟩ = some (.pointer (some ⟨tb, 0, none⟩)) ∧ W.cell? ⟨bl, 0, none⟩ = some (.pointer (some ⟨lb, 0, none⟩)) ∧ W.cell? ⟨bt, 0, none⟩ = some (.string (S tp))) W') := fun s' k' W' h' => ⟨h'.logAt.log.c1, h'.box (List.mem_cons_of_mem _ h_bl), h'.box (List.mem_cons_of_mem _ h_bt)⟩
  have FS := Lib.hid (NF.out s k W.drew h.drew)
  clear h h_bl h_bt
  change Calls _ _ #[.pointer (some ⟨bl, 0, none⟩), .pointer (some ⟨bt, 0, none⟩)] W _
  go_enter Tryz.func106, Tryz.ntmps106
  go_upto_region 1 with fail
  refine wp_region_held_drew (S := (fun W => W.cell? ⟨lb, 1, none⟩ = some (.pointer (some ⟨tb, 0, none⟩)) ∧ W.cell? ⟨bl, 0, none⟩ = some (.pointer (some ⟨lb, 0, none⟩)) ∧ W.cell? ⟨bt, 0, none⟩ = some (.string (S tp)))) (by kernel_rfl) FS.out (fun hHeld => ?_)
  change wpAnyH _ _ _ _ _ 7 (Array.replicate 7 false) _ _
  refine wpAnyH_take (i := 0) (oi := { dst := some 3, op := Op.load 28 (Operand.tmp 0), type := 28, pos := "file.go:44", after := #[], guard := none }) (v := ?vsync0) rfl (by kernel_rfl) (by kernel_rfl) (by kernel_rfl) (fun _ _ _ h => h) (Or.inl ⟨by rfl, ?hysync0⟩) hHeld ?restsync0
  case hysync0 =>
    intro W hSw
    have x0 := hSw.1
    have x1 := hSw.2.1
    have x2 := hSw.2.2
    go_simp
    try with_reducible rfl
  try simp only [Act.put, List.setIfInBounds_toArray, List.set_cons_zero, List.set_cons_succ]
  refine wpAnyH_take (i := 1) (oi := { dst := some 4, op := Op.nilCheck (Operand.tmp 3), type := 0, pos := "file.go:44", after := #[{ on := 0, ground := Ground.data }], guard := none }) (v := ?vsync1) rfl (by kernel_rfl) (by kernel_rfl) (by kernel_rfl) (fun _ _ _ h => h) (Or.inl ⟨by rfl, ?hysync1⟩) hHeld ?restsync1
  case hysync1 =>
    intro W hSw
    have x0 := hSw.1
    have x1 := hSw.2.1
    have x2 := hSw.2.2
    go_simp
    try with_reducible rfl
  try simp only [Act.put, List.setIfInBounds_toArray, List.set_cons_zero, List.set_cons_succ]
  refine wpAnyH_take (i := 2) (oi := { dst := some 5, op := Op.fieldAddr 74 (Operand.tmp 4) 1, type := 0, pos := "file.go:44", after := #[{ on := 1, ground := Ground.data }], guard := none }) (v := ?vsync2) rfl (by kernel_rfl) (by kernel_rfl) (by kernel_rfl) (fun _ _ _ h => h) (Or.inl ⟨by rfl, ?hysync2⟩) hHeld ?restsync2
  case hysync2 =>
    intro W hSw
    have x0 := hSw.1
    have x1 := hSw.2.1
    have x2 := hSw.2.2
    go_simp
    try with_reducible rfl
  try simp only [Act.put, List.setIfInBounds_toArray, List.set_cons_zero, List.set_cons_succ]
  refine wpAnyH_take (i := 3) (oi := { dst := some 6, op := Op.load 40 (Operand.tmp 5), type := 40, pos := "file.go:44", after := #[{ on := 2, ground := Ground.data }], guard := none }) (v := ?vsync3) rfl (by kernel_rfl) (by kernel_rfl) (by kernel_rfl) (fun _ _ _ h => h) (Or.inl ⟨by rfl, ?hysync3⟩) hHeld ?restsync3
  case hysync3 =>
    intro W hSw
    have x0 := hSw.1
    have x1 := hSw.2.1
    have x2 := hSw.2.2
    go_simp
    try with_reducible rfl
  try simp only [Act.put, List.setIfInBounds_toArray, List.set_cons_zero, List.set_cons_succ]
  refine wpAnyH_take (i := 4) (oi := { dst := some 7, op := Op.load 9 (Operand.tmp 1), type := 9, pos := "file.go:44", after := #[], guard := none }) (v := ?vsync4) rfl (by kernel_rfl) (by kernel_rfl) (by kernel_rfl) (fun _ _ _ h => h) (Or.inl ⟨by rfl, ?hysync4⟩) hHeld ?restsync4
  case hysync4 =>
    intro W hSw
    have x0 := hSw.1
    have x1 := hSw.2.1
    have x2 := hSw.2.2
    go_simp
    try with_reducible rfl
  try simp only [Act.put, List.setIfInBounds_toArray, List.set_cons_zero, List.set_cons_succ]
  refine wpAnyH_ready (rs := [5]) (by kernel_rfl) (by simp) ?_
  refine AllReadyH.cons (o := { dst := some 8, op := Op.call { callee := Callee.value (Operand.func 62), args := #[Operand.tmp 6, Operand.tmp 7], argTypes := #[40, 9] }, type := 25, pos := "file.go:44", after := #[{ on := 3, ground := Ground.data }, { on := 4, ground := Ground.data }], guard := none }) rfl (fun K' hK => ?_) AllReadyH.nil
  go_simp
  refine X.out.mono ?_
  rintro e w2 ⟨rfl, hl⟩
  have HL := Lib.hid hl
  clear hl
  show K' _ w2
  refine hK.out _ _ (NF.out _ _ w2 HL.out) (fun hHeld => ?_)
  clear hK K'
  try simp only [Act.put, List.setIfInBounds_toArray, List.set_cons_zero, List.set_cons_succ]
  refine wpAnyH_take (i := 6) (oi := { dst := some 2, op := Op.assign (Operand.tmp 8), type := 25, pos := "file.go:44", after := #[{ on := 5, ground := Ground.data }, { on := 5, ground := Ground.chain }, { on := 0, ground := Ground.phase }, { on := 1, ground := Ground.phase }, { on := 2, ground := Ground.phase }, { on := 3, ground := Ground.phase }, { on := 4, ground := Ground.phase }, { on := 5, ground := Ground.phase }], guard := none }) (v := ?vsync6) rfl (by kernel_rfl) (by kernel_rfl) (by kernel_rfl) (fun _ _ _ h => h) (Or.inl ⟨by rfl, ?hysync6⟩) hHeld ?restsync6
  case hysync6 =>
    intro W hSw
    have x0 := hSw.1
    have x1 := hSw.2.1
    have x2 := hSw.2.2
    go_simp
    try with_reducible rfl
  try simp only [Act.put, List.setIfInBounds_toArray, List.set_cons_zero, List.set_cons_succ]
  refine wpAnyH_done (by kernel_rfl) ?_ _
  go_wp2
  go_ret
  exact ⟨rfl, HL.out⟩

set_option maxRecDepth 100000 in
set_option maxHeartbeats 2000000 in
theorem stepv_rename {w : World} {tb lb bl bt : Nat} {L : Lg} {Z0 : List (Nat × Obj)} {tp : Str} (htp : tp.length ≤ 10000) (hlp : L.path.length ≤ 10000) (h_bl : (bl, boxO 28 (.pointer (some ⟨lb, 0, none⟩))) ∈ Z0) (h_bt : (bt, boxO 9 (.string (S tp))) ∈ Z0) :
    StepV w tb ((lb, logO tb L) :: Z0) (.func (.func 107) #[] #[.pointer (some ⟨bl, 0, none⟩), .pointer (some ⟨bt, 0, none⟩)]) (fun s => s.rename tp L.path) := by
  refine ⟨_, _, _, rfl, .inr (.inr (.inr (.inr (.inl rfl)))), fun W s k h hk => ?_⟩
  have X := Lib.hid (livz_rename h.drew hk tp L.path htp hlp)
  have NF : Hid (∀ (s' : St) (k' : Nat) (W' : World), LivZ w tb s' k' ((lb, logO tb L) :: Z0) W' → (fun W => W.cell? ⟨lb, 1, none⟩ = some (.pointer (some ⟨tb, 0, none⟩)) ∧ W.cell? ⟨lb, 2, none⟩ = some (.string (S L.path)) ∧ W.cell? ⟨bl, 0, none⟩ = some (.pointer (some ⟨lb, 0, none⟩)) ∧ W.cell? ⟨bt, 0, none⟩ = some (.string (S tp))) W') := fun s' k' W' h' => ⟨h'.logAt.log.c1, h'.logAt.log.c2, h'.box (List.mem_cons_of_mem _ h_bl), h'.box (List.mem_cons_of_mem _ h_bt)⟩
  have FS := Lib.hid (NF.out s k W.drew h.drew)
  clear h h_bl h_bt
  change Calls _ _ #[.pointer (some ⟨bl, 0, none⟩), .pointer (some ⟨bt, 0, none⟩)] W _
  go_enter Tryz.func107, Tryz.ntmps107
  go_upto_region 1 with fail
  refine wp_region_held_drew (S := (fun W => W.cell? ⟨lb, 1, none⟩ = some (.pointer (some ⟨tb, 0, none⟩)) ∧ W.cell? ⟨lb, 2, none⟩ = some (.string (S L.path)) ∧ W.cell? ⟨bl, 0, none⟩ = some (.pointer (some ⟨lb, 0, none⟩)) ∧ W.cell? ⟨bt, 0, none⟩ = some (.string (S tp)))) (by kernel_rfl) FS.out (fun hHeld => ?_)
  change wpAnyH _ _ _ _ _ 11 (Array.replicate 11 false) _ _
  refine wpAnyH_take (i := 0) (oi := { dst := some 3, op := Op.load 28 (Operand.tmp 0), type := 28, pos := "file.go:45", after := #[], guard := none }) (v := ?vrename0) rfl (by kernel_rfl) (by kernel_rfl) (by kernel_rfl) (fun _ _ _ h => h) (Or.inl ⟨by rfl, ?hyrename0⟩) hHeld ?restrename0
  case hyrename0 =>
    intro W hSw
    have x0 := hSw.1
    have x1 := hSw.2.1
    have x2 := hSw.2.2.1
    have x3 := hSw.2.2.2
    go_simp
    try with_reducible rfl
  try simp only [Act.put, List.setIfInBounds_toArray, List.set_cons_zero, List.set_cons_succ]
  refine wpAnyH_take (i := 1) (oi := { dst := some 4, op := Op.nilCheck (Operand.tmp 3), type := 0, pos := "file.go:45", after := #[{ on := 0, ground := Ground.data }], guard := none }) (v := ?vrename1) rfl (by kernel_rfl) (by kernel_rfl) (by kernel_rfl) (fun _ _ _ h => h) (Or.inl ⟨by rfl, ?hyrename1⟩) hHeld ?restrename1
  case hyrename1 =>
    intro W hSw
    have x0 := hSw.1
    have x1 := hSw.2.1
    have x2 := hSw.2.2.1
    have x3 := hSw.2.2.2
    go_simp
    try with_reducible rfl
  try simp only [Act.put, List.setIfInBounds_toArray, List.set_cons_zero, List.set_cons_succ]
  refine wpAnyH_take (i := 2) (oi := { dst := some 5, op := Op.fieldAddr 74 (Operand.tmp 4) 1, type := 0, pos := "file.go:45", after := #[{ on := 1, ground := Ground.data }], guard := none }) (v := ?vrename2) rfl (by kernel_rfl) (by kernel_rfl) (by kernel_rfl) (fun _ _ _ h => h) (Or.inl ⟨by rfl, ?hyrename2⟩) hHeld ?restrename2
  case hyrename2 =>
    intro W hSw
    have x0 := hSw.1
    have x1 := hSw.2.1
    have x2 := hSw.2.2.1
    have x3 := hSw.2.2.2
    go_simp
    try with_reducible rfl
  try simp only [Act.put, List.setIfInBounds_toArray, List.set_cons_zero, List.set_cons_succ]
  refine wpAnyH_take (i := 3) (oi := { dst := some 6, op := Op.load 40 (Operand.tmp 5), type := 40, pos := "file.go:45", after := #[{ on := 2, ground := Ground.data }], guard := none }) (v := ?vrename3) rfl (by kernel_rfl) (by kernel_rfl) (by kernel_rfl) (fun _ _ _ h => h) (Or.inl ⟨by rfl, ?hyrename3⟩) hHeld ?restrename3
  case hyrename3 =>
    intro W hSw
    have x0 := hSw.1
    have x1 := hSw.2.1
    have x2 := hSw.2.2.1
    have x3 := hSw.2.2.2
    go_simp
    try with_reducible rfl
  try simp only [Act.put, List.setIfInBounds_toArray, List.set_cons_zero, List.set_cons_succ]
  refine wpAnyH_take (i := 4) (oi := { dst := some 7, op := Op.load 9 (Operand.tmp 1), type := 9, pos := "file.go:45", after := #[], guard := none }) (v := ?vrename4) rfl (by kernel_rfl) (by kernel_rfl) (by kernel_rfl) (fun _ _ _ h => h) (Or.inl ⟨by rfl, ?hyrename4⟩) hHeld ?restrename4
  case hyrename4 =>
    intro W hSw
    have x0 := hSw.1
    have x1 := hSw.2.1
    have x2 := hSw.2.2.1
    have x3 := hSw.2.2.2
    go_simp
    try with_reducible rfl
  try simp only [Act.put, List.setIfInBounds_toArray, List.set_cons_zero, List.set_cons_succ]
  refine wpAnyH_take (i := 5) (oi := { dst := some 8, op := Op.load 28 (Operand.tmp 0), type := 28, pos := "file.go:45", after := #[], guard := none }) (v := ?vrename5) rfl (by kernel_rfl) (by kernel_rfl) (by kernel_rfl) (fun _ _ _ h => h) (Or.inl ⟨by rfl, ?hyrename5⟩) hHeld ?restrename5
  case hyrename5 =>
    intro W hSw
    have x0 := hSw.1
    have x1 := hSw.2.1
    have x2 := hSw.2.2.1
    have x3 := hSw.2.2.2
    go_simp
    try with_reducible rfl
  try simp only [Act.put, List.setIfInBounds_toArray, List.set_cons_zero, List.set_cons_succ]
  refine wpAnyH_take (i := 6) (oi := { dst := some 9, op := Op.nilCheck (Operand.tmp 8), type := 0, pos := "file.go:45", after := #[{ on := 5, ground := Ground.data }], guard := none }) (v := ?vrename6) rfl (by kernel_rfl) (by kernel_rfl) (by kernel_rfl) (fun _ _ _ h => h) (Or.inl ⟨by rfl, ?hyrename6⟩) hHeld ?restrename6
  case hyrename6 =>
    intro W hSw
    have x0 := hSw.1
    have x1 := hSw.2.1
    have x2 := hSw.2.2.1
    have x3 := hSw.2.2.2
    go_simp
    try with_reducible rfl
  try simp only [Act.put, List.setIfInBounds_toArray, List.set_cons_zero, List.set_cons_succ]
  refine wpAnyH_take (i := 7) (oi := { dst := some 10, op := Op.fieldAddr 74 (Operand.tmp 9) 2, type := 0, pos := "file.go:45", after := #[{ on := 6, ground := Ground.data }], guard := none }) (v := ?vrename7) rfl (by kernel_rfl) (by kernel_rfl) (by kernel_rfl) (fun _ _ _ h => h) (Or.inl ⟨by rfl, ?hyrename7⟩) hHeld ?restrename7
  case hyrename7 =>
    intro W hSw
    have x0 := hSw.1
    have x1 := hSw.2.1
    have x2 := hSw.2.2.1
    have x3 := hSw.2.2.2
    go_simp
    try with_reducible rfl
  try simp only [Act.put, List.setIfInBounds_toArray, List.set_cons_zero, List.set_cons_succ]
  refine wpAnyH_take (i := 8) (oi := { dst := some 11, op := Op.load 9 (Operand.tmp 10), type := 9, pos := "file.go:45", after := #[{ on := 7, ground := Ground.data }], guard := none }) (v := ?vrename8) rfl (by kernel_rfl) (by kernel_rfl) (by kernel_rfl) (fun _ _ _ h => h) (Or.inl ⟨by rfl, ?hyrename8⟩) hHeld ?restrename8
  case hyrename8 =>
    intro W hSw
    have x0 := hSw.1
    have x1 := hSw.2.1
    have x2 := hSw.2.2.1
    have x3 := hSw.2.2.2
    go_simp
    try with_reducible rfl
  try simp only [Act.put, List.setIfInBounds_toArray, List.set_cons_zero, List.set_cons_succ]
  refine wpAnyH_ready (rs := [9]) (by kernel_rfl) (by simp) ?_
  refine AllReadyH.cons (o := { dst := some 12, op := Op.call { callee := Callee.value (Operand.func 108), args := #[Operand.tmp 6, Operand.tmp 7, Operand.tmp 11], argTypes := #[40, 9, 9] }, type := 25, pos := "file.go:45", after := #[{ on := 3, ground := Ground.data }, { on := 4, ground := Ground.data }, { on := 8, ground := Ground.data }], guard := none }) rfl (fun K' hK => ?_) AllReadyH.nil
  go_simp
  refine X.out.mono ?_
  rintro e w2 ⟨rfl, hl⟩
  have HL := Lib.hid hl
  clear hl
  show K' _ w2
  refine hK.out _ _ (NF.out _ _ w2 HL.out) (fun hHeld => ?_)
  clear hK K'
  try simp only [Act.put, List.setIfInBounds_toArray, List.set_cons_zero, List.set_cons_succ]
  refine wpAnyH_take (i := 10) (oi := { dst := some 2, op := Op.assign (Operand.tmp 12), type := 25, pos := "file.go:45", after := #[{ on := 9, ground := Ground.data }, { on := 9, ground := Ground.chain }, { on := 0, ground := Ground.phase }, { on := 1, ground := Ground.phase }, { on := 2, ground := Ground.phase }, { on := 3, ground := Ground.phase }, { on := 4, ground := Ground.phase }, { on := 5, ground := Ground.phase }, { on := 6, ground := Ground.phase }, { on := 7, ground := Ground.phase }, { on := 8, ground := Ground.phase }, { on := 9, ground := Ground.phase }], guard := none }) (v := ?vrename10) rfl (by kernel_rfl) (by kernel_rfl) (by kernel_rfl) (fun _ _ _ h => h) (Or.inl ⟨by rfl, ?hyrename10⟩) hHeld ?restrename10
  case hyrename10 =>
    intro W hSw
    have x0 := hSw.1
    have x1 := hSw.2.1
    have x2 := hSw.2.2.1
    have x3 := hSw.2.2.2
    go_simp
    try with_reducible rfl
  try simp only [Act.put, List.setIfInBounds_toArray, List.set_cons_zero, List.set_cons_succ]
  refine wpAnyH_done (by kernel_rfl) ?_ _
  go_wp2
  go_ret
  exact ⟨rfl, HL.out⟩

set_option maxRecDepth 100000 in
set_option maxHeartbeats 2000000 in
theorem stepv_append {w : World} {tb lb bl bb : Nat} {L : Lg} {Z0 : List (Nat × Obj)} {b : Str} {A : Option Addr} {n c : Nat} (hlp : L.path.length ≤ 10000) (hA : A = none ∧ n = 0 ∧ c = 0 ∧ b = [] ∨ ∃ j o, A = some ⟨j, 0, none⟩ ∧ (j, o) ∈ Z0) (hb : ∀ W, (∀ z ∈ Z0, W.heap[z.1]? = some z.2) → Arg W A n c b) (hbl : b.length ≤ 10000) (h_bl : (bl, boxO 28 (.pointer (some ⟨lb, 0, none⟩))) ∈ Z0) (h_bb : (bb, boxO 22 (.slice A n c)) ∈ Z0) :
    StepV w tb ((lb, logO tb L) :: Z0) (.func (.func 60) #[] #[.pointer (some ⟨bl, 0, none⟩), .pointer (some ⟨bb, 0, none⟩)]) (fun s => s.append_ L.path b) := by
  refine ⟨_, _, _, rfl, .inr (.inr (.inr (.inr (.inr (.inr (.inl rfl)))))), fun W s k h hk => ?_⟩
  have X := Lib.hid (livz_append h.drew (Nx.refl _) hk L.path hlp A n c b (hb _ fun z hz => h.drew.at_ z (List.mem_cons_of_mem _ hz)) hbl (arg_in hA))
  have NF : Hid (∀ (s' : St) (k' : Nat) (W' : World), LivZ w tb s' k' ((lb, logO tb L) :: Z0) W' → (fun W => W.cell? ⟨lb, 1, none⟩ = some (.pointer (some ⟨tb, 0, none⟩)) ∧ W.cell? ⟨lb, 2, none⟩ = some (.string (S L.path)) ∧ W.cell? ⟨bl, 0, none⟩ = some (.pointer (some ⟨lb, 0, none⟩)) ∧ W.cell? ⟨bb, 0, none⟩ = some (.slice A n c)) W') := fun s' k' W' h' => ⟨h'.logAt.log.c1, h'.logAt.log.c2, h'.box (List.mem_cons_of_mem _ h_bl), h'.box (List.mem_cons_of_mem _ h_bb)⟩
  have FS := Lib.hid (NF.out s k W.drew h.drew)
  clear h h_bl h_bb
  change Calls _ _ #[.pointer (some ⟨bl, 0, none⟩), .pointer (some ⟨bb, 0, none⟩)] W _
  go_enter Tryz.func60, Tryz.ntmps60
  go_upto_region 1 with fail
  refine wp_region_held_drew (S := (fun W => W.cell? ⟨lb, 1, none⟩ = some (.pointer (some ⟨tb, 0, none⟩)) ∧ W.cell? ⟨lb, 2, none⟩ = some (.string (S L.path)) ∧ W.cell? ⟨bl, 0, none⟩ = some (.pointer (some ⟨lb, 0, none⟩)) ∧ W.cell? ⟨bb, 0, none⟩ = some (.slice A n c))) (by kernel_rfl) FS.out (fun hHeld => ?_)
  change wpAnyH _ _ _ _ _ 11 (Array.replicate 11 false) _ _
  refine wpAnyH_take (i := 0) (oi := { dst := some 3, op := Op.load 28 (Operand.tmp 0), type := 28, pos := "wal.go:46", after := #[], guard := none }) (v := ?vappend0) rfl (by kernel_rfl) (by kernel_rfl) (by kernel_rfl) (fun _ _ _ h => h) (Or.inl ⟨by rfl, ?hyappend0⟩) hHeld ?restappend0
  case hyappend0 =>
    intro W hSw
    have x0 := hSw.1
    have x1 := hSw.2.1
    have x2 := hSw.2.2.1
    have x3 := hSw.2.2.2
    go_simp
    try with_reducible rfl
  try simp only [Act.put, List.setIfInBounds_toArray, List.set_cons_zero, List.set_cons_succ]
  refine wpAnyH_take (i := 1) (oi := { dst := some 4, op := Op.nilCheck (Operand.tmp 3), type := 0, pos := "wal.go:46", after := #[{ on := 0, ground := Ground.data }], guard := none }) (v := ?vappend1) rfl (by kernel_rfl) (by kernel_rfl) (by kernel_rfl) (fun _ _ _ h => h) (Or.inl ⟨by rfl, ?hyappend1⟩) hHeld ?restappend1
  case hyappend1 =>
    intro W hSw
    have x0 := hSw.1
    have x1 := hSw.2.1
    have x2 := hSw.2.2.1
    have x3 := hSw.2.2.2
    go_simp
    try with_reducible rfl
  try simp only [Act.put, List.setIfInBounds_toArray, List.set_cons_zero, List.set_cons_succ]
  refine wpAnyH_take (i := 2) (oi := { dst := some 5, op := Op.fieldAddr 74 (Operand.tmp 4) 1, type := 0, pos := "wal.go:46", after := #[{ on := 1, ground := Ground.data }], guard := none }) (v := ?vappend2) rfl (by kernel_rfl) (by kernel_rfl) (by kernel_rfl) (fun _ _ _ h => h) (Or.inl ⟨by rfl, ?hyappend2⟩) hHeld ?restappend2
  case hyappend2 =>
    intro W hSw
    have x0 := hSw.1
    have x1 := hSw.2.1
    have x2 := hSw.2.2.1
    have x3 := hSw.2.2.2
    go_simp
    try with_reducible rfl
  try simp only [Act.put, List.setIfInBounds_toArray, List.set_cons_zero, List.set_cons_succ]
  refine wpAnyH_take (i := 3) (oi := { dst := some 6, op := Op.load 40 (Operand.tmp 5), type := 40, pos := "wal.go:46", after := #[{ on := 2, ground := Ground.data }], guard := none }) (v := ?vappend3) rfl (by kernel_rfl) (by kernel_rfl) (by kernel_rfl) (fun _ _ _ h => h) (Or.inl ⟨by rfl, ?hyappend3⟩) hHeld ?restappend3
  case hyappend3 =>
    intro W hSw
    have x0 := hSw.1
    have x1 := hSw.2.1
    have x2 := hSw.2.2.1
    have x3 := hSw.2.2.2
    go_simp
    try with_reducible rfl
  try simp only [Act.put, List.setIfInBounds_toArray, List.set_cons_zero, List.set_cons_succ]
  refine wpAnyH_take (i := 4) (oi := { dst := some 7, op := Op.load 28 (Operand.tmp 0), type := 28, pos := "wal.go:46", after := #[], guard := none }) (v := ?vappend4) rfl (by kernel_rfl) (by kernel_rfl) (by kernel_rfl) (fun _ _ _ h => h) (Or.inl ⟨by rfl, ?hyappend4⟩) hHeld ?restappend4
  case hyappend4 =>
    intro W hSw
    have x0 := hSw.1
    have x1 := hSw.2.1
    have x2 := hSw.2.2.1
    have x3 := hSw.2.2.2
    go_simp
    try with_reducible rfl
  try simp only [Act.put, List.setIfInBounds_toArray, List.set_cons_zero, List.set_cons_succ]
  refine wpAnyH_take (i := 5) (oi := { dst := some 8, op := Op.nilCheck (Operand.tmp 7), type := 0, pos := "wal.go:46", after := #[{ on := 4, ground := Ground.data }], guard := none }) (v := ?vappend5) rfl (by kernel_rfl) (by kernel_rfl) (by kernel_rfl) (fun _ _ _ h => h) (Or.inl ⟨by rfl, ?hyappend5⟩) hHeld ?restappend5
  case hyappend5 =>
    intro W hSw
    have x0 := hSw.1
    have x1 := hSw.2.1
    have x2 := hSw.2.2.1
    have x3 := hSw.2.2.2
    go_simp
    try with_reducible rfl
  try simp only [Act.put, List.setIfInBounds_toArray, List.set_cons_zero, List.set_cons_succ]
  refine wpAnyH_take (i := 6) (oi := { dst := some 9, op := Op.fieldAddr 74 (Operand.tmp 8) 2, type := 0, pos := "wal.go:46", after := #[{ on := 5, ground := Ground.data }], guard := none }) (v := ?vappend6) rfl (by kernel_rfl) (by kernel_rfl) (by kernel_rfl) (fun _ _ _ h => h) (Or.inl ⟨by rfl, ?hyappend6⟩) hHeld ?restappend6
  case hyappend6 =>
    intro W hSw
    have x0 := hSw.1
    have x1 := hSw.2.1
    have x2 := hSw.2.2.1
    have x3 := hSw.2.2.2
    go_simp
    try with_reducible rfl
  try simp only [Act.put, List.setIfInBounds_toArray, List.set_cons_zero, List.set_cons_succ]
  refine wpAnyH_take (i := 7) (oi := { dst := some 10, op := Op.load 9 (Operand.tmp 9), type := 9, pos := "wal.go:46", after := #[{ on := 6, ground := Ground.data }], guard := none }) (v := ?vappend7) rfl (by kernel_rfl) (by kernel_rfl) (by kernel_rfl) (fun _ _ _ h => h) (Or.inl ⟨by rfl, ?hyappend7⟩) hHeld ?restappend7
  case hyappend7 =>
    intro W hSw
    have x0 := hSw.1
    have x1 := hSw.2.1
    have x2 := hSw.2.2.1
    have x3 := hSw.2.2.2
    go_simp
    try with_reducible rfl
  try simp only [Act.put, List.setIfInBounds_toArray, List.set_cons_zero, List.set_cons_succ]
  refine wpAnyH_take (i := 8) (oi := { dst := some 11, op := Op.load 22 (Operand.tmp 1), type := 22, pos := "wal.go:46", after := #[], guard := none }) (v := ?vappend8) rfl (by kernel_rfl) (by kernel_rfl) (by kernel_rfl) (fun _ _ _ h => h) (Or.inl ⟨by rfl, ?hyappend8⟩) hHeld ?restappend8
  case hyappend8 =>
    intro W hSw
    have x0 := hSw.1
    have x1 := hSw.2.1
    have x2 := hSw.2.2.1
    have x3 := hSw.2.2.2
    go_simp
    try with_reducible rfl
  try simp only [Act.put, List.setIfInBounds_toArray, List.set_cons_zero, List.set_cons_succ]
  refine wpAnyH_ready (rs := [9]) (by kernel_rfl) (by simp) ?_
  refine AllReadyH.cons (o := { dst := some 12, op := Op.call { callee := Callee.value (Operand.func 50), args := #[Operand.tmp 6, Operand.tmp 10, Operand.tmp 11], argTypes := #[40, 9, 22] }, type := 25, pos := "wal.go:46", after := #[{ on := 3, ground := Ground.data }, { on := 7, ground := Ground.data }, { on := 8, ground := Ground.data }], guard := none }) rfl (fun K' hK => ?_) AllReadyH.nil
  go_simp
  refine X.out.mono ?_
  rintro e w2 ⟨rfl, hl⟩
  have HL := Lib.hid hl
  clear hl
  show K' _ w2
  refine hK.out _ _ (NF.out _ _ w2 HL.out) (fun hHeld => ?_)
  clear hK K'
  try simp only [Act.put, List.setIfInBounds_toArray, List.set_cons_zero, List.set_cons_succ]
  refine wpAnyH_take (i := 10) (oi := { dst := some 2, op := Op.assign (Operand.tmp 12), type := 25, pos := "wal.go:46", after := #[{ on := 9, ground := Ground.data }, { on := 9, ground := Ground.chain }, { on := 0, ground := Ground.phase }, { on := 1, ground := Ground.phase }, { on := 2, ground := Ground.phase }, { on := 3, ground := Ground.phase }, { on := 4, ground := Ground.phase }, { on := 5, ground := Ground.phase }, { on := 6, ground := Ground.phase }, { on := 7, ground := Ground.phase }, { on := 8, ground := Ground.phase }, { on := 9, ground := Ground.phase }], guard := none }) (v := ?vappend10) rfl (by kernel_rfl) (by kernel_rfl) (by kernel_rfl) (fun _ _ _ h => h) (Or.inl ⟨by rfl, ?hyappend10⟩) hHeld ?restappend10
  case hyappend10 =>
    intro W hSw
    have x0 := hSw.1
    have x1 := hSw.2.1
    have x2 := hSw.2.2.1
    have x3 := hSw.2.2.2
    go_simp
    try with_reducible rfl
  try simp only [Act.put, List.setIfInBounds_toArray, List.set_cons_zero, List.set_cons_succ]
  refine wpAnyH_done (by kernel_rfl) ?_ _
  go_wp2
  go_ret
  exact ⟨rfl, HL.out⟩

set_option maxRecDepth 100000 in
set_option maxHeartbeats 2000000 in
theorem stepv_logSync {w : World} {tb lb bl : Nat} {L : Lg} {Z0 : List (Nat × Obj)} (hlp : L.path.length ≤ 10000) (h_bl : (bl, boxO 28 (.pointer (some ⟨lb, 0, none⟩))) ∈ Z0) :
    StepV w tb ((lb, logO tb L) :: Z0) (.func (.func 61) #[] #[.pointer (some ⟨bl, 0, none⟩)]) (fun s => s.sync L.path) := by
  refine ⟨_, _, _, rfl, .inr (.inr (.inr (.inr (.inr (.inr (.inr rfl)))))), fun W s k h hk => ?_⟩
  have X := Lib.hid (livz_sync h.drew hk L.path hlp)
  have NF : Hid (∀ (s' : St) (k' : Nat) (W' : World), LivZ w tb s' k' ((lb, logO tb L) :: Z0) W' → (fun W => W.cell? ⟨lb, 1, none⟩ = some (.pointer (some ⟨tb, 0, none⟩)) ∧ W.cell? ⟨lb, 2, none⟩ = some (.string (S L.path)) ∧ W.cell? ⟨bl, 0, none⟩ = some (.pointer (some ⟨lb, 0, none⟩))) W') := fun s' k' W' h' => ⟨h'.logAt.log.c1, h'.logAt.log.c2, h'.box (List.mem_cons_of_mem _ h_bl)⟩
  have FS := Lib.hid (NF.out s k W.drew h.drew)
  clear h h_bl
  change Calls _ _ #[.pointer (some ⟨bl, 0, none⟩)] W _
  go_enter Tryz.func61, Tryz.ntmps61
  go_upto_region 1 with fail
  refine wp_region_held_drew (S := (fun W => W.cell? ⟨lb, 1, none⟩ = some (.pointer (some ⟨tb, 0, none⟩)) ∧ W.cell? ⟨lb, 2, none⟩ = some (.string (S L.path)) ∧ W.cell? ⟨bl, 0, none⟩ = some (.pointer (some ⟨lb, 0, none⟩)))) (by kernel_rfl) FS.out (fun hHeld => ?_)
  change wpAnyH _ _ _ _ _ 10 (Array.replicate 10 false) _ _
  refine wpAnyH_take (i := 0) (oi := { dst := some 2, op := Op.load 28 (Operand.tmp 0), type := 28, pos := "wal.go:59", after := #[], guard := none }) (v := ?vlogSync0) rfl (by kernel_rfl) (by kernel_rfl) (by kernel_rfl) (fun _ _ _ h => h) (Or.inl ⟨by rfl, ?hylogSync0⟩) hHeld ?restlogSync0
  case hylogSync0 =>
    intro W hSw
    have x0 := hSw.1
    have x1 := hSw.2.1
    have x2 := hSw.2.2
    go_simp
    try with_reducible rfl
  try simp only [Act.put, List.setIfInBounds_toArray, List.set_cons_zero, List.set_cons_succ]
  refine wpAnyH_take (i := 1) (oi := { dst := some 3, op := Op.nilCheck (Operand.tmp 2), type := 0, pos := "wal.go:59", after := #[{ on := 0, ground := Ground.data }], guard := none }) (v := ?vlogSync1) rfl (by kernel_rfl) (by kernel_rfl) (by kernel_rfl) (fun _ _ _ h => h) (Or.inl ⟨by rfl, ?hylogSync1⟩) hHeld ?restlogSync1
  case hylogSync1 =>
    intro W hSw
    have x0 := hSw.1
    have x1 := hSw.2.1
    have x2 := hSw.2.2
    go_simp
    try with_reducible rfl
  try simp only [Act.put, List.setIfInBounds_toArray, List.set_cons_zero, List.set_cons_succ]
  refine wpAnyH_take (i := 2) (oi := { dst := some 4, op := Op.fieldAddr 74 (Operand.tmp 3) 1, type := 0, pos := "wal.go:59", after := #[{ on := 1, ground := Ground.data }], guard := none }) (v := ?vlogSync2) rfl (by kernel_rfl) (by kernel_rfl) (by kernel_rfl) (fun _ _ _ h => h) (Or.inl ⟨by rfl, ?hylogSync2⟩) hHeld ?restlogSync2
  case hylogSync2 =>
    intro W hSw
    have x0 := hSw.1
    have x1 := hSw.2.1
    have x2 := hSw.2.2
    go_simp
    try with_reducible rfl
  try simp only [Act.put, List.setIfInBounds_toArray, List.set_cons_zero, List.set_cons_succ]
  refine wpAnyH_take (i := 3) (oi := { dst := some 5, op := Op.load 40 (Operand.tmp 4), type := 40, pos := "wal.go:59", after := #[{ on := 2, ground := Ground.data }], guard := none }) (v := ?vlogSync3) rfl (by kernel_rfl) (by kernel_rfl) (by kernel_rfl) (fun _ _ _ h => h) (Or.inl ⟨by rfl, ?hylogSync3⟩) hHeld ?restlogSync3
  case hylogSync3 =>
    intro W hSw
    have x0 := hSw.1
    have x1 := hSw.2.1
    have x2 := hSw.2.2
    go_simp
    try with_reducible rfl
  try simp only [Act.put, List.setIfInBounds_toArray, List.set_cons_zero, List.set_cons_succ]
  refine wpAnyH_take (i := 4) (oi := { dst := some 6, op := Op.load 28 (Operand.tmp 0), type := 28, pos := "wal.go:59", after := #[], guard := none }) (v := ?vlogSync4) rfl (by kernel_rfl) (by kernel_rfl) (by kernel_rfl) (fun _ _ _ h => h) (Or.inl ⟨by rfl, ?hylogSync4⟩) hHeld ?restlogSync4
  case hylogSync4 =>
    intro W hSw
    have x0 := hSw.1
    have x1 := hSw.2.1
    have x2 := hSw.2.2
    go_simp
    try with_reducible rfl
  try simp only [Act.put, List.setIfInBounds_toArray, List.set_cons_zero, List.set_cons_succ]
  refine wpAnyH_take (i := 5) (oi := { dst := some 7, op := Op.nilCheck (Operand.tmp 6), type := 0, pos := "wal.go:59", after := #[{ on := 4, ground := Ground.data }], guard := none }) (v := ?vlogSync5) rfl (by kernel_rfl) (by kernel_rfl) (by kernel_rfl) (fun _ _ _ h => h) (Or.inl ⟨by rfl, ?hylogSync5⟩) hHeld ?restlogSync5
  case hylogSync5 =>
    intro W hSw
    have x0 := hSw.1
    have x1 := hSw.2.1
    have x2 := hSw.2.2
    go_simp
    try with_reducible rfl
  try simp only [Act.put, List.setIfInBounds_toArray, List.set_cons_zero, List.set_cons_succ]
  refine wpAnyH_take (i := 6) (oi := { dst := some 8, op := Op.fieldAddr 74 (Operand.tmp 7) 2, type := 0, pos := "wal.go:59", after := #[{ on := 5, ground := Ground.data }], guard := none }) (v := ?vlogSync6) rfl (by kernel_rfl) (by kernel_rfl) (by kernel_rfl) (fun _ _ _ h => h) (Or.inl ⟨by rfl, ?hylogSync6⟩) hHeld ?restlogSync6
  case hylogSync6 =>
    intro W hSw
    have x0 := hSw.1
    have x1 := hSw.2.1
    have x2 := hSw.2.2
    go_simp
    try with_reducible rfl
  try simp only [Act.put, List.setIfInBounds_toArray, List.set_cons_zero, List.set_cons_succ]
  refine wpAnyH_take (i := 7) (oi := { dst := some 9, op := Op.load 9 (Operand.tmp 8), type := 9, pos := "wal.go:59", after := #[{ on := 6, ground := Ground.data }], guard := none }) (v := ?vlogSync7) rfl (by kernel_rfl) (by kernel_rfl) (by kernel_rfl) (fun _ _ _ h => h) (Or.inl ⟨by rfl, ?hylogSync7⟩) hHeld ?restlogSync7
  case hylogSync7 =>
    intro W hSw
    have x0 := hSw.1
    have x1 := hSw.2.1
    have x2 := hSw.2.2
    go_simp
    try with_reducible rfl
  try simp only [Act.put, List.setIfInBounds_toArray, List.set_cons_zero, List.set_cons_succ]
  refine wpAnyH_ready (rs := [8]) (by kernel_rfl) (by simp) ?_
  refine AllReadyH.cons (o := { dst := some 10, op := Op.call { callee := Callee.value (Operand.func 62), args := #[Operand.tmp 5, Operand.tmp 9], argTypes := #[40, 9] }, type := 25, pos := "wal.go:59", after := #[{ on := 3, ground := Ground.data }, { on := 7, ground := Ground.data }], guard := none }) rfl (fun K' hK => ?_) AllReadyH.nil
  go_simp
  refine X.out.mono ?_
  rintro e w2 ⟨rfl, hl⟩
  have HL := Lib.hid hl
  clear hl
  show K' _ w2
  refine hK.out _ _ (NF.out _ _ w2 HL.out) (fun hHeld => ?_)
  clear hK K'
  try simp only [Act.put, List.setIfInBounds_toArray, List.set_cons_zero, List.set_cons_succ]
  refine wpAnyH_take (i := 9) (oi := { dst := some 1, op := Op.assign (Operand.tmp 10), type := 25, pos := "wal.go:59", after := #[{ on := 8, ground := Ground.data }, { on := 8, ground := Ground.chain }, { on := 0, ground := Ground.phase }, { on := 1, ground := Ground.phase }, { on := 2, ground := Ground.phase }, { on := 3, ground := Ground.phase }, { on := 4, ground := Ground.phase }, { on := 5, ground := Ground.phase }, { on := 6, ground := Ground.phase }, { on := 7, ground := Ground.phase }, { on := 8, ground := Ground.phase }], guard := none }) (v := ?vlogSync9) rfl (by kernel_rfl) (by kernel_rfl) (by kernel_rfl) (fun _ _ _ h => h) (Or.inl ⟨by rfl, ?hylogSync9⟩) hHeld ?restlogSync9
  case hylogSync9 =>
    intro W hSw
    have x0 := hSw.1
    have x1 := hSw.2.1
    have x2 := hSw.2.2
    go_simp
    try with_reducible rfl
  try simp only [Act.put, List.setIfInBounds_toArray, List.set_cons_zero, List.set_cons_succ]
  refine wpAnyH_done (by kernel_rfl) ?_ _
  go_wp2
  go_ret
  exact ⟨rfl, HL.out⟩

end Go.Proofs.YtiikjdjpodmpcaaGreat

/- Package wal: replace. -/
namespace Go.Proofs.YtiikjdjpodmpcaaGreat
open Go.RowKit Go.Maps
set_option linter.unusedVariables false

theorem LivZ.mem_at {w W : World} {tb k : Nat} {s : St} {Z : List (Nat × Obj)} (h : LivZ w tb s k Z W) : ∀ z ∈ Z, W.heap[z.1]? = some z.2 := h.at_
/-- A slice of bytes that lies in one of the blocks Z, or is nil. -/
structure ArgZ (Z : List (Nat × Obj)) (A : Option Addr) (n c : Nat) (b : Str) : Prop where
  at_ : A = none ∧ n = 0 ∧ c = 0 ∧ b = [] ∨ ∃ j o, A = some ⟨j, 0, none⟩ ∧ (j, o) ∈ Z
  arg : ∀ W : World, (∀ z ∈ Z, W.heap[z.1]? = some z.2) → Arg W A n c b
  len : b.length ≤ 10000
theorem ArgZ.nil (Z : List (Nat × Obj)) : ArgZ Z none 0 0 [] := ⟨.inl ⟨rfl, rfl, rfl, rfl⟩, fun W _ => ⟨rfl, Nat.le_refl _, Nat.zero_le _, fun e => by omega⟩, Nat.zero_le _⟩
theorem ArgZ.more {Z Z' : List (Nat × Obj)} {A : Option Addr} {n c : Nat} {b : Str} (h : ArgZ Z A n c b) (hs : ∀ z ∈ Z, z ∈ Z') : ArgZ Z' A n c b :=
  ⟨by rcases h.at_ with h1 | ⟨j, o, h1, h2⟩
      · exact .inl h1
      · exact .inr ⟨j, o, h1, hs _ h2⟩, fun W hW => h.arg W fun z hz => hW z (hs z hz), h.len⟩

def stepVals (lb tb bl bt bb : Nat) : List Value := [.func (.func 101) #[.pointer (some ⟨lb, 0, none⟩)] #[],
  .func (.func 102) #[] #[.pointer (some ⟨bl, 0, none⟩), .pointer (some ⟨bt, 0, none⟩)],
  .func (.func 104) #[] #[.pointer (some ⟨bl, 0, none⟩), .pointer (some ⟨bt, 0, none⟩), .pointer (some ⟨bb, 0, none⟩)],
  .func (.func 106) #[] #[.pointer (some ⟨bl, 0, none⟩), .pointer (some ⟨bt, 0, none⟩)],
  .func (.func 107) #[] #[.pointer (some ⟨bl, 0, none⟩), .pointer (some ⟨bt, 0, none⟩)],
  .func (.func 109) #[.pointer (some ⟨tb, 0, none⟩)] #[]]
theorem steps_replace {w : World} {tb lb bl bt bb : Nat} {L : Lg} {Z0 : List (Nat × Obj)} {A : Option Addr} {n c : Nat} {b : Str} (e1 : isPath L.path = true) (hA : ArgZ Z0 A n c b)
    (h1 : (bl, boxO 28 (.pointer (some ⟨lb, 0, none⟩))) ∈ Z0) (h2 : (bt, boxO 9 (.string (S (tmpOf L.path)))) ∈ Z0) (h3 : (bb, boxO 22 (.slice A n c)) ∈ Z0) :
    ∀ (i : Nat) (v : Value) (f : Stp), (stepVals lb tb bl bt bb)[i]? = some v → (replS L.path b)[i]? = some f → StepV w tb ((lb, logO tb L) :: Z0) v f := by
  have htp := tmpOf_len e1
  have hlp := isPath_len e1
  intro i v f hv hf
  match i with
  | 0 => cases hv; cases hf; exact stepv_clean e1
  | 1 => cases hv; cases hf; exact stepv_make (by omega) h1 h2
  | 2 => cases hv; cases hf; exact stepv_write (by omega) hA.at_ hA.arg hA.len h1 h2 h3
  | 3 => cases hv; cases hf; exact stepv_sync (by omega) h1 h2
  | 4 => cases hv; cases hf; exact stepv_rename (by omega) (by omega) h1 h2
  | 5 => cases hv; cases hf; exact stepv_syncPaths
  | i + 6 => cases hv

set_option maxRecDepth 100000 in
set_option maxHeartbeats 4000000 in
theorem lreplace_any (w W : World) (tb lb k : Nat) (s : St) (L : Lg) (Z : List (Nat × Obj)) (A : Option Addr) (n c : Nat) (b : Str) (cnt : Int)
    (h : LivZ w tb s k ((lb, logO tb L) :: Z) W) (hk : k + 12 ≤ 1000) (e1 : isPath L.path = true) (hA : ArgZ Z A n c b) :
    Calls Tryz.prog 64 #[.pointer (some ⟨lb, 0, none⟩), .slice A n c, .int .i64 cnt] W fun e w' => e = .returned (.int .i64 (L.replace s b cnt).1.e) ∧ LivZ w tb (L.replace s b cnt).2 (k + 12) ((lb, logO tb (L.replace s b cnt).1) :: Z) w' := by
  have hn : b.length = n := (hA.arg W fun z hz => h.at_ z (List.mem_cons_of_mem _ hz)).len
  have h1 := (h.alloc (boxO 28 (.pointer (some ⟨lb, 0, none⟩)))).alloc (boxO 22 (.slice A n c))
  obtain ⟨W1, hW1⟩ : ∃ W1, (W.alloc (boxO 28 (.pointer (some ⟨lb, 0, none⟩)))).alloc (boxO 22 (.slice A n c)) = W1 := ⟨_, rfl⟩
  rw [hW1] at h1
  have hsz : (W.alloc (boxO 28 (.pointer (some ⟨lb, 0, none⟩)))).heap.size = W.heap.size + 1 := by simp
  rw [hsz] at h1
  obtain ⟨bl, hbl⟩ : ∃ bl, W.heap.size = bl := ⟨_, rfl⟩
  rw [hbl] at h1
  have T := Lib.hid (ltemp_any ((h1.perm (Z' := (lb, logO tb L) :: (bl + 1, boxO 22 (.slice A n c)) :: (bl, boxO 28 (.pointer (some ⟨lb, 0, none⟩))) :: Z) (by
    refine List.Perm.trans ?_ (List.Perm.swap _ _ _)
    exact List.Perm.cons _ (List.Perm.swap _ _ _))).logAt.log) e1)
  have cl := h1.box (b := bl) (List.mem_cons_of_mem _ List.mem_cons_self)
  have H1 := Lib.hid h1
  have HA := Lib.hid hA
  have E1 := Lib.hid e1
  have HN := Lib.hid hn
  have HK := Lib.hid hk
  have hlen : n ≤ 10000 := by rw [← hn]; exact hA.len
  have HL := Lib.hid hlen
  have i1 : (n : Int) ≤ 10000 := by omega
  clear h h1 hA e1 hn hk hsz
  generalize hst : S (tmpOf L.path) = st at *
  have HST := Lib.hid hst
  clear hst
  unfold boxO at hW1
  have HW := Lib.hid hW1
  clear hW1
  have HB := Lib.hid hbl
  clear hbl
  go_enter Tryz.func64, Tryz.ntmps64
  go_wp2_with fail
  rw [HW.out, HB.out]
  refine T.out.mono ?_
  rintro e w1 ⟨rfl, hn1⟩
  have h1 := H1.out.next hn1
  have h2 := h1.alloc (boxO 9 (.string st))
  obtain ⟨W2, hW2⟩ : ∃ W2, w1.alloc (boxO 9 (.string st)) = W2 := ⟨_, rfl⟩
  rw [hW2] at h2
  obtain ⟨bt, hbt⟩ : ∃ bt, w1.heap.size = bt := ⟨_, rfl⟩
  rw [hbt] at h2
  unfold boxO at hW2
  have HW2 := Lib.hid hW2
  have HBT := Lib.hid hbt
  clear hW2 hbt h1 hn1 T H1
  have h3 := h2.perm (Z' := (lb, logO tb L) :: (bt, boxO 9 (.string st)) :: (bl + 1, boxO 22 (.slice A n c)) :: (bl, boxO 28 (.pointer (some ⟨lb, 0, none⟩))) :: Z) (by
    refine List.Perm.trans (List.Perm.cons _ (List.Perm.cons _ (List.Perm.swap _ _ _))) ?_
    refine List.Perm.trans (List.Perm.cons _ (List.Perm.swap _ _ _)) ?_
    exact List.Perm.swap _ _ _)
  have H3 := Lib.hid h3
  have hl3 := h3.logAt.log
  have d1 := hl3.c1
  have dl := h3.box (b := bl) (List.mem_cons_of_mem _ (List.mem_cons_of_mem _ (List.mem_cons_of_mem _ List.mem_cons_self)))
  clear h2 h3 hl3 cl
  go_upto_region 2 with fail
  have h4 := H3.out.alloc (fnsO (stepVals lb tb bl bt (bl + 1)))
  obtain ⟨rb, hrb⟩ : ∃ rb, W2.heap.size = rb := ⟨_, rfl⟩
  rw [hrb] at h4
  have h4' := h4.swap.drew
  have H4 := Lib.hid h4'
  have HRB := Lib.hid hrb
  have x := do_any w _ tb lb k s L ((rb, fnsO (stepVals lb tb bl bt (bl + 1))) :: (bt, boxO 9 (.string st)) :: (bl + 1, boxO 22 (.slice A n c)) :: (bl, boxO 28 (.pointer (some ⟨lb, 0, none⟩))) :: Z) (replS L.path b) (stepVals lb tb bl bt (bl + 1)) rb 6 h4' List.mem_cons_self rfl rfl (Nat.le_refl _) HK.out
    (steps_replace (L := { L with e := 0 }) E1.out (HA.out.more fun z hz => List.mem_cons_of_mem _ (List.mem_cons_of_mem _ (List.mem_cons_of_mem _ (List.mem_cons_of_mem _ hz))))
      (List.mem_cons_of_mem _ (List.mem_cons_of_mem _ (List.mem_cons_of_mem _ List.mem_cons_self)))
      (by show (bt, boxO 9 (.string (S (tmpOf L.path)))) ∈ _; rw [HST.out]; exact List.mem_cons_of_mem _ List.mem_cons_self)
      (List.mem_cons_of_mem _ (List.mem_cons_of_mem _ List.mem_cons_self)))
  have X := Lib.hid x
  clear x h4 h4' H3 hrb
  rw [HW2.out, HBT.out]
  refine wp_region_held_drew (S := (fun W => W.cell? ⟨bl, 0, none⟩ = some (.pointer (some ⟨lb, 0, none⟩)) ∧ W.cell? ⟨lb, 1, none⟩ = some (.pointer (some ⟨tb, 0, none⟩)))) (by kernel_rfl) ⟨dl, d1⟩ (fun hHeld => ?_)
  change wpAnyH _ _ _ _ _ 17 (Array.replicate 17 false) _ _
  refine wpAnyH_take (i := 0) (oi := { dst := some 11, op := Op.load 28 (Operand.tmp 3), type := 28, pos := "file.go:40", after := #[], guard := none }) (v := ?va0) rfl (by kernel_rfl) (by kernel_rfl) (by kernel_rfl) (fun _ _ _ h => h) (Or.inl ⟨by rfl, ?hya0⟩) hHeld ?resta0
  case hya0 =>
    intro W hSw
    have x0 := hSw.1
    have x1 := hSw.2
    go_simp
    try with_reducible rfl
  try simp only [Act.put, List.setIfInBounds_toArray, List.set_cons_zero, List.set_cons_succ]
  refine wpAnyH_take (i := 1) (oi := { dst := some 12, op := Op.nilCheck (Operand.tmp 11), type := 0, pos := "file.go:40", after := #[{ on := 0, ground := Ground.data }], guard := none }) (v := ?va1) rfl (by kernel_rfl) (by kernel_rfl) (by kernel_rfl) (fun _ _ _ h => h) (Or.inl ⟨by rfl, ?hya1⟩) hHeld ?resta1
  case hya1 =>
    intro W hSw
    have x0 := hSw.1
    have x1 := hSw.2
    go_simp
    try with_reducible rfl
  try simp only [Act.put, List.setIfInBounds_toArray, List.set_cons_zero, List.set_cons_succ]
  refine wpAnyH_take (i := 2) (oi := { dst := some 13, op := Op.fieldAddr 74 (Operand.tmp 12) 0, type := 0, pos := "file.go:40", after := #[{ on := 1, ground := Ground.data }], guard := none }) (v := ?va2) rfl (by kernel_rfl) (by kernel_rfl) (by kernel_rfl) (fun _ _ _ h => h) (Or.inl ⟨by rfl, ?hya2⟩) hHeld ?resta2
  case hya2 =>
    intro W hSw
    have x0 := hSw.1
    have x1 := hSw.2
    go_simp
    try with_reducible rfl
  try simp only [Act.put, List.setIfInBounds_toArray, List.set_cons_zero, List.set_cons_succ]
  refine wpAnyH_take (i := 3) (oi := { dst := some 14, op := Op.load 28 (Operand.tmp 3), type := 28, pos := "file.go:40", after := #[], guard := none }) (v := ?va3) rfl (by kernel_rfl) (by kernel_rfl) (by kernel_rfl) (fun _ _ _ h => h) (Or.inl ⟨by rfl, ?hya3⟩) hHeld ?resta3
  case hya3 =>
    intro W hSw
    have x0 := hSw.1
    have x1 := hSw.2
    go_simp
    try with_reducible rfl
  try simp only [Act.put, List.setIfInBounds_toArray, List.set_cons_zero, List.set_cons_succ]
  refine wpAnyH_take (i := 4) (oi := { dst := some 15, op := Op.makeFunc (Fn.func 101) #[Operand.tmp 14] #[], type := 60, pos := "file.go:40", after := #[{ on := 3, ground := Ground.data }], guard := none }) (v := ?va4) rfl (by kernel_rfl) (by kernel_rfl) (by kernel_rfl) (fun _ _ _ h => h) (Or.inl ⟨by rfl, ?hya4⟩) hHeld ?resta4
  case hya4 =>
    intro W hSw
    have x0 := hSw.1
    have x1 := hSw.2
    go_simp
    try with_reducible rfl
  try simp only [Act.put, List.setIfInBounds_toArray, List.set_cons_zero, List.set_cons_succ]
  refine wpAnyH_take (i := 5) (oi := { dst := some 16, op := Op.makeFunc (Fn.func 102) #[] #[Operand.tmp 3, Operand.tmp 7], type := 60, pos := "file.go:40", after := #[], guard := none }) (v := ?va5) rfl (by kernel_rfl) (by kernel_rfl) (by kernel_rfl) (fun _ _ _ h => h) (Or.inl ⟨by rfl, ?hya5⟩) hHeld ?resta5
  case hya5 =>
    intro W hSw
    have x0 := hSw.1
    have x1 := hSw.2
    go_simp
    try with_reducible rfl
  try simp only [Act.put, List.setIfInBounds_toArray, List.set_cons_zero, List.set_cons_succ]
  refine wpAnyH_take (i := 6) (oi := { dst := some 17, op := Op.makeFunc (Fn.func 104) #[] #[Operand.tmp 3, Operand.tmp 7, Operand.tmp 4], type := 60, pos := "file.go:40", after := #[], guard := none }) (v := ?va6) rfl (by kernel_rfl) (by kernel_rfl) (by kernel_rfl) (fun _ _ _ h => h) (Or.inl ⟨by rfl, ?hya6⟩) hHeld ?resta6
  case hya6 =>
    intro W hSw
    have x0 := hSw.1
    have x1 := hSw.2
    go_simp
    try with_reducible rfl
  try simp only [Act.put, List.setIfInBounds_toArray, List.set_cons_zero, List.set_cons_succ]
  refine wpAnyH_take (i := 7) (oi := { dst := some 18, op := Op.makeFunc (Fn.func 106) #[] #[Operand.tmp 3, Operand.tmp 7], type := 60, pos := "file.go:40", after := #[], guard := none }) (v := ?va7) rfl (by kernel_rfl) (by kernel_rfl) (by kernel_rfl) (fun _ _ _ h => h) (Or.inl ⟨by rfl, ?hya7⟩) hHeld ?resta7
  case hya7 =>
    intro W hSw
    have x0 := hSw.1
    have x1 := hSw.2
    go_simp
    try with_reducible rfl
  try simp only [Act.put, List.setIfInBounds_toArray, List.set_cons_zero, List.set_cons_succ]
  refine wpAnyH_take (i := 8) (oi := { dst := some 19, op := Op.makeFunc (Fn.func 107) #[] #[Operand.tmp 3, Operand.tmp 7], type := 60, pos := "file.go:40", after := #[], guard := none }) (v := ?va8) rfl (by kernel_rfl) (by kernel_rfl) (by kernel_rfl) (fun _ _ _ h => h) (Or.inl ⟨by rfl, ?hya8⟩) hHeld ?resta8
  case hya8 =>
    intro W hSw
    have x0 := hSw.1
    have x1 := hSw.2
    go_simp
    try with_reducible rfl
  try simp only [Act.put, List.setIfInBounds_toArray, List.set_cons_zero, List.set_cons_succ]
  refine wpAnyH_take (i := 9) (oi := { dst := some 20, op := Op.load 28 (Operand.tmp 3), type := 28, pos := "file.go:40", after := #[], guard := none }) (v := ?va9) rfl (by kernel_rfl) (by kernel_rfl) (by kernel_rfl) (fun _ _ _ h => h) (Or.inl ⟨by rfl, ?hya9⟩) hHeld ?resta9
  case hya9 =>
    intro W hSw
    have x0 := hSw.1
    have x1 := hSw.2
    go_simp
    try with_reducible rfl
  try simp only [Act.put, List.setIfInBounds_toArray, List.set_cons_zero, List.set_cons_succ]
  refine wpAnyH_take (i := 10) (oi := { dst := some 21, op := Op.nilCheck (Operand.tmp 20), type := 0, pos := "file.go:40", after := #[{ on := 9, ground := Ground.data }], guard := none }) (v := ?va10) rfl (by kernel_rfl) (by kernel_rfl) (by kernel_rfl) (fun _ _ _ h => h) (Or.inl ⟨by rfl, ?hya10⟩) hHeld ?resta10
  case hya10 =>
    intro W hSw
    have x0 := hSw.1
    have x1 := hSw.2
    go_simp
    try with_reducible rfl
  try simp only [Act.put, List.setIfInBounds_toArray, List.set_cons_zero, List.set_cons_succ]
  refine wpAnyH_take (i := 11) (oi := { dst := some 22, op := Op.fieldAddr 74 (Operand.tmp 21) 1, type := 0, pos := "file.go:40", after := #[{ on := 10, ground := Ground.data }], guard := none }) (v := ?va11) rfl (by kernel_rfl) (by kernel_rfl) (by kernel_rfl) (fun _ _ _ h => h) (Or.inl ⟨by rfl, ?hya11⟩) hHeld ?resta11
  case hya11 =>
    intro W hSw
    have x0 := hSw.1
    have x1 := hSw.2
    go_simp
    try with_reducible rfl
  try simp only [Act.put, List.setIfInBounds_toArray, List.set_cons_zero, List.set_cons_succ]
  refine wpAnyH_take (i := 12) (oi := { dst := some 23, op := Op.load 40 (Operand.tmp 22), type := 40, pos := "file.go:40", after := #[{ on := 11, ground := Ground.data }], guard := none }) (v := ?va12) rfl (by kernel_rfl) (by kernel_rfl) (by kernel_rfl) (fun _ _ _ h => h) (Or.inl ⟨by rfl, ?hya12⟩) hHeld ?resta12
  case hya12 =>
    intro W hSw
    have x0 := hSw.1
    have x1 := hSw.2
    go_simp
    try with_reducible rfl
  try simp only [Act.put, List.setIfInBounds_toArray, List.set_cons_zero, List.set_cons_succ]
  refine wpAnyH_take (i := 13) (oi := { dst := some 24, op := Op.makeFunc (Fn.func 109) #[Operand.tmp 23] #[], type := 60, pos := "file.go:40", after := #[{ on := 12, ground := Ground.data }], guard := none }) (v := ?va13) rfl (by kernel_rfl) (by kernel_rfl) (by kernel_rfl) (fun _ _ _ h => h) (Or.inl ⟨by rfl, ?hya13⟩) hHeld ?resta13
  case hya13 =>
    intro W hSw
    have x0 := hSw.1
    have x1 := hSw.2
    go_simp
    try with_reducible rfl
  try simp only [Act.put, List.setIfInBounds_toArray, List.set_cons_zero, List.set_cons_succ]
  refine wpAnyH_ready (rs := [14]) (by kernel_rfl) (by simp) ?_
  refine AllReadyH.cons (o := { dst := some 25, op := Op.buildSlice 136 6 #[(0, Operand.tmp 15), (1, Operand.tmp 16), (2, Operand.tmp 17), (3, Operand.tmp 18), (4, Operand.tmp 19), (5, Operand.tmp 24)], type := 136, pos := "file.go:40", after := #[{ on := 4, ground := Ground.data }, { on := 5, ground := Ground.data }, { on := 6, ground := Ground.data }, { on := 7, ground := Ground.data }, { on := 8, ground := Ground.data }, { on := 13, ground := Ground.data }], guard := none }) rfl (fun K' hK => ?_) AllReadyH.nil
  go_simp
  show K' _ _
  refine hK.out _ _ ⟨(H4.out.box (b := bl) (List.mem_cons_of_mem _ (List.mem_cons_of_mem _ (List.mem_cons_of_mem _ (List.mem_cons_of_mem _ List.mem_cons_self))))), H4.out.logAt.log.c1⟩ (fun hHeld => ?_)
  clear hK K'
  try simp only [Act.put, List.setIfInBounds_toArray, List.set_cons_zero, List.set_cons_succ]
  refine wpAnyH_ready (rs := [15]) (by kernel_rfl) (by simp) ?_
  refine AllReadyH.cons (o := { dst := some 26, op := Op.call { callee := Callee.value (Operand.func 59), args := #[Operand.tmp 13, Operand.tmp 25], argTypes := #[72, 136] }, type := 25, pos := "file.go:40", after := #[{ on := 2, ground := Ground.data }, { on := 14, ground := Ground.data }], guard := none }) rfl (fun K' hK => ?_) AllReadyH.nil
  go_simp
  rw [HRB.out]
  refine X.out.mono ?_
  rintro e w5 ⟨rfl, hl⟩
  have H5 := Lib.hid hl
  clear hl
  show K' _ w5
  refine hK.out _ _ ⟨(H5.out.box (b := bl) (List.mem_cons_of_mem _ (List.mem_cons_of_mem _ (List.mem_cons_of_mem _ (List.mem_cons_of_mem _ List.mem_cons_self))))), H5.out.logAt.log.c1⟩ (fun hHeld => ?_)
  clear hK K'
  try simp only [Act.put, List.setIfInBounds_toArray, List.set_cons_zero, List.set_cons_succ]
  refine wpAnyH_take (i := 16) (oi := { dst := some 8, op := Op.assign (Operand.tmp 26), type := 25, pos := "file.go:40", after := #[{ on := 15, ground := Ground.data }, { on := 15, ground := Ground.chain }, { on := 0, ground := Ground.phase }, { on := 1, ground := Ground.phase }, { on := 2, ground := Ground.phase }, { on := 3, ground := Ground.phase }, { on := 4, ground := Ground.phase }, { on := 5, ground := Ground.phase }, { on := 6, ground := Ground.phase }, { on := 7, ground := Ground.phase }, { on := 8, ground := Ground.phase }, { on := 9, ground := Ground.phase }, { on := 10, ground := Ground.phase }, { on := 11, ground := Ground.phase }, { on := 12, ground := Ground.phase }, { on := 13, ground := Ground.phase }, { on := 14, ground := Ground.phase }, { on := 15, ground := Ground.phase }], guard := none }) (v := ?va16) rfl (by kernel_rfl) (by kernel_rfl) (by kernel_rfl) (fun _ _ _ h => h) (Or.inl ⟨by rfl, ?hya16⟩) hHeld ?resta16
  case hya16 =>
    intro W hSw
    have x0 := hSw.1
    have x1 := hSw.2
    go_simp
    try with_reducible rfl
  try simp only [Act.put, List.setIfInBounds_toArray, List.set_cons_zero, List.set_cons_succ]
  refine wpAnyH_done (by kernel_rfl) ?_ _
  clear hHeld
  have hD : Hid ((L.replace s b cnt).1 = (if (doS (replS L.path b) s L.e).2 = 0 then { L with size := b.length, count := cnt, e := (doS (replS L.path b) s L.e).2 } else { L with e := (doS (replS L.path b) s L.e).2 }) ∧ (L.replace s b cnt).2 = (doS (replS L.path b) s L.e).1) := by
    unfold Hid Lg.replace
    generalize doS (replS L.path b) s L.e = r
    obtain ⟨s', e⟩ := r
    simp only
    split <;> exact ⟨rfl, rfl⟩
  clear X
  generalize hdd : doS (replS L.path b) s L.e = D at *
  obtain ⟨s2, e2⟩ := D
  clear hdd
  simp only at hD H5 ⊢
  by_cases h0 : e2 = 0
  · subst h0
    have h5 := H5.out
    have gl := h5.box (b := bl) (List.mem_cons_of_mem _ (List.mem_cons_of_mem _ (List.mem_cons_of_mem _ (List.mem_cons_of_mem _ List.mem_cons_self))))
    have gb := h5.box (b := bl + 1) (List.mem_cons_of_mem _ (List.mem_cons_of_mem _ (List.mem_cons_of_mem _ List.mem_cons_self)))
    have h6 := h5.drew.set 3 (.int .i64 (n : Int))
    have h7 := h6.set 4 (.int .i64 cnt)
    have fz3 := h5.logAt.log.fz 3
    have k3 := h5.logAt.log.c3
    have k4 := h5.logAt.log.c4
    have fz4 := h5.logAt.log.fz 4
    have H6 := Lib.hid h6
    have H7 := Lib.hid h7
    clear h5 h6 h7
    go_upto_region 4 with fail
    refine wp_region_held_drew (S := (fun W => W.cell? ⟨bl, 0, none⟩ = some (.pointer (some ⟨lb, 0, none⟩)) ∧ W.cell? ⟨bl + 1, 0, none⟩ = some (.slice A n c))) (by kernel_rfl) ⟨gl, gb⟩ (fun hHeld => ?_)
    change wpAnyH _ _ _ _ _ 11 (Array.replicate 11 false) _ _
    refine wpAnyH_take (i := 0) (oi := { dst := some 29, op := Op.load 28 (Operand.tmp 3), type := 28, pos := "file.go:49", after := #[], guard := none }) (v := ?vb0) rfl (by kernel_rfl) (by kernel_rfl) (by kernel_rfl) (fun _ _ _ h => h) (Or.inl ⟨by rfl, ?hyb0⟩) hHeld ?restb0
    case hyb0 =>
      intro W hSw
      have x0 := hSw.1
      have x1 := hSw.2
      go_simp
      try with_reducible rfl
    try simp only [Act.put, List.setIfInBounds_toArray, List.set_cons_zero, List.set_cons_succ]
    refine wpAnyH_take (i := 1) (oi := { dst := some 30, op := Op.load 28 (Operand.tmp 3), type := 28, pos := "file.go:49", after := #[{ on := 7, ground := Ground.gcOnly Departure.lateStores }], guard := none }) (v := ?vb1) rfl (by kernel_rfl) (by kernel_rfl) (by kernel_rfl) (fun _ _ _ h => h) (Or.inl ⟨by rfl, ?hyb1⟩) hHeld ?restb1
    case hyb1 =>
      intro W hSw
      have x0 := hSw.1
      have x1 := hSw.2
      go_simp
      try with_reducible rfl
    try simp only [Act.put, List.setIfInBounds_toArray, List.set_cons_zero, List.set_cons_succ]
    refine wpAnyH_take (i := 2) (oi := { dst := some 31, op := Op.load 22 (Operand.tmp 4), type := 22, pos := "file.go:49", after := #[], guard := none }) (v := ?vb2) rfl (by kernel_rfl) (by kernel_rfl) (by kernel_rfl) (fun _ _ _ h => h) (Or.inl ⟨by rfl, ?hyb2⟩) hHeld ?restb2
    case hyb2 =>
      intro W hSw
      have x0 := hSw.1
      have x1 := hSw.2
      go_simp
      try with_reducible rfl
    try simp only [Act.put, List.setIfInBounds_toArray, List.set_cons_zero, List.set_cons_succ]
    refine wpAnyH_take (i := 3) (oi := { dst := some 32, op := Op.call { callee := Callee.builtin Builtin.len, args := #[Operand.tmp 31], argTypes := #[22] }, type := 3, pos := "file.go:49", after := #[{ on := 2, ground := Ground.data }], guard := none }) (v := ?vb3) rfl (by kernel_rfl) (by kernel_rfl) (by kernel_rfl) (fun _ _ _ h => h) (Or.inl ⟨by rfl, ?hyb3⟩) hHeld ?restb3
    case hyb3 =>
      intro W hSw
      have x0 := hSw.1
      have x1 := hSw.2
      go_simp
      try with_reducible rfl
    try simp only [Act.put, List.setIfInBounds_toArray, List.set_cons_zero, List.set_cons_succ]
    refine wpAnyH_take (i := 4) (oi := { dst := some 33, op := Op.move (Operand.tmp 2), type := 3, pos := "file.go:49", after := #[{ on := 7, ground := Ground.gcOnly Departure.lateStores }], guard := none }) (v := ?vb4) rfl (by kernel_rfl) (by kernel_rfl) (by kernel_rfl) (fun _ _ _ h => h) (Or.inl ⟨by rfl, ?hyb4⟩) hHeld ?restb4
    case hyb4 =>
      intro W hSw
      have x0 := hSw.1
      have x1 := hSw.2
      go_simp
      try with_reducible rfl
    try simp only [Act.put, List.setIfInBounds_toArray, List.set_cons_zero, List.set_cons_succ]
    refine wpAnyH_take (i := 5) (oi := { dst := some 34, op := Op.nilCheck (Operand.tmp 29), type := 0, pos := "file.go:49", after := #[{ on := 0, ground := Ground.data }, { on := 0, ground := Ground.phase }, { on := 1, ground := Ground.textOnly Departure.lateStores }, { on := 2, ground := Ground.phase }, { on := 3, ground := Ground.phase }, { on := 4, ground := Ground.textOnly Departure.lateStores }], guard := none }) (v := ?vb5) rfl (by kernel_rfl) (by kernel_rfl) (by kernel_rfl) (fun _ _ _ h => h) (Or.inl ⟨by rfl, ?hyb5⟩) hHeld ?restb5
    case hyb5 =>
      intro W hSw
      have x0 := hSw.1
      have x1 := hSw.2
      go_simp
      try with_reducible rfl
    try simp only [Act.put, List.setIfInBounds_toArray, List.set_cons_zero, List.set_cons_succ]
    refine wpAnyH_take (i := 6) (oi := { dst := some 35, op := Op.fieldAddr 74 (Operand.tmp 34) 3, type := 0, pos := "file.go:49", after := #[{ on := 5, ground := Ground.data }, { on := 0, ground := Ground.phase }, { on := 1, ground := Ground.textOnly Departure.lateStores }, { on := 2, ground := Ground.phase }, { on := 3, ground := Ground.phase }, { on := 4, ground := Ground.textOnly Departure.lateStores }], guard := none }) (v := ?vb6) rfl (by kernel_rfl) (by kernel_rfl) (by kernel_rfl) (fun _ _ _ h => h) (Or.inl ⟨by rfl, ?hyb6⟩) hHeld ?restb6
    case hyb6 =>
      intro W hSw
      have x0 := hSw.1
      have x1 := hSw.2
      go_simp
      try with_reducible rfl
    try simp only [Act.put, List.setIfInBounds_toArray, List.set_cons_zero, List.set_cons_succ]
    refine wpAnyH_ready (rs := [7]) (by kernel_rfl) (by simp) ?_
    refine AllReadyH.cons (o := { dst := none, op := Op.store 3 (Operand.tmp 35) (Operand.tmp 32), type := 0, pos := "file.go:49", after := #[{ on := 6, ground := Ground.data }, { on := 3, ground := Ground.data }, { on := 0, ground := Ground.phase }, { on := 1, ground := Ground.textOnly Departure.lateStores }, { on := 2, ground := Ground.phase }, { on := 3, ground := Ground.phase }, { on := 4, ground := Ground.textOnly Departure.lateStores }], guard := none }) rfl (fun K' hK => ?_) AllReadyH.nil
    go_simp
    refine hK.out _ _ ⟨(H6.out.box (b := bl) (List.mem_cons_of_mem _ (List.mem_cons_of_mem _ (List.mem_cons_of_mem _ (List.mem_cons_of_mem _ List.mem_cons_self))))), (H6.out.box (b := bl + 1) (List.mem_cons_of_mem _ (List.mem_cons_of_mem _ (List.mem_cons_of_mem _ List.mem_cons_self))))⟩ (fun hHeld => ?_)
    clear hK K'
    try simp only [Act.put, List.setIfInBounds_toArray, List.set_cons_zero, List.set_cons_succ]
    refine wpAnyH_take (i := 8) (oi := { dst := some 36, op := Op.nilCheck (Operand.tmp 30), type := 0, pos := "file.go:49", after := #[{ on := 1, ground := Ground.data }, { on := 0, ground := Ground.phase }, { on := 1, ground := Ground.phase }, { on := 2, ground := Ground.phase }, { on := 3, ground := Ground.phase }, { on := 4, ground := Ground.phase }, { on := 5, ground := Ground.phase }, { on := 6, ground := Ground.phase }, { on := 7, ground := Ground.phase }], guard := none }) (v := ?vb8) rfl (by kernel_rfl) (by kernel_rfl) (by kernel_rfl) (fun _ _ _ h => h) (Or.inl ⟨by rfl, ?hyb8⟩) hHeld ?restb8
    case hyb8 =>
      intro W hSw
      have x0 := hSw.1
      have x1 := hSw.2
      go_simp
      try with_reducible rfl
    try simp only [Act.put, List.setIfInBounds_toArray, List.set_cons_zero, List.set_cons_succ]
    refine wpAnyH_take (i := 9) (oi := { dst := some 37, op := Op.fieldAddr 74 (Operand.tmp 36) 4, type := 0, pos := "file.go:49", after := #[{ on := 8, ground := Ground.data }, { on := 0, ground := Ground.phase }, { on := 1, ground := Ground.phase }, { on := 2, ground := Ground.phase }, { on := 3, ground := Ground.phase }, { on := 4, ground := Ground.phase }, { on := 5, ground := Ground.phase }, { on := 6, ground := Ground.phase }, { on := 7, ground := Ground.phase }], guard := none }) (v := ?vb9) rfl (by kernel_rfl) (by kernel_rfl) (by kernel_rfl) (fun _ _ _ h => h) (Or.inl ⟨by rfl, ?hyb9⟩) hHeld ?restb9
    case hyb9 =>
      intro W hSw
      have x0 := hSw.1
      have x1 := hSw.2
      go_simp
      try with_reducible rfl
    try simp only [Act.put, List.setIfInBounds_toArray, List.set_cons_zero, List.set_cons_succ]
    refine wpAnyH_ready (rs := [10]) (by kernel_rfl) (by simp) ?_
    refine AllReadyH.cons (o := { dst := none, op := Op.store 3 (Operand.tmp 37) (Operand.tmp 33), type := 0, pos := "file.go:49", after := #[{ on := 9, ground := Ground.data }, { on := 4, ground := Ground.data }, { on := 7, ground := Ground.chain }, { on := 0, ground := Ground.phase }, { on := 1, ground := Ground.phase }, { on := 2, ground := Ground.phase }, { on := 3, ground := Ground.phase }, { on := 4, ground := Ground.phase }, { on := 5, ground := Ground.phase }, { on := 6, ground := Ground.phase }, { on := 7, ground := Ground.phase }], guard := none }) rfl (fun K' hK => ?_) AllReadyH.nil
    go_simp
    refine hK.out _ _ ⟨(H7.out.box (b := bl) (List.mem_cons_of_mem _ (List.mem_cons_of_mem _ (List.mem_cons_of_mem _ (List.mem_cons_of_mem _ List.mem_cons_self))))), (H7.out.box (b := bl + 1) (List.mem_cons_of_mem _ (List.mem_cons_of_mem _ (List.mem_cons_of_mem _ List.mem_cons_self))))⟩ (fun hHeld => ?_)
    clear hK K'
    try simp only [Act.put]
    refine wpAnyH_done (by kernel_rfl) ?_ _
    clear hHeld
    go_wp2
    go_ret
    rw [hD.out.1, hD.out.2, if_pos trivial, HN.out]
    refine ⟨rfl, H7.out.sub ?_⟩
    exact List.Sublist.cons_cons _ (List.Sublist.cons _ (List.Sublist.cons _ (List.Sublist.cons _ (List.Sublist.cons _ (List.Sublist.refl _)))))
  · go_wp2
    go_ret
    rw [hD.out.1, hD.out.2, if_neg h0]
    refine ⟨rfl, H5.out.sub ?_⟩
    exact List.Sublist.cons_cons _ (List.Sublist.cons _ (List.Sublist.cons _ (List.Sublist.cons _ (List.Sublist.cons _ (List.Sublist.refl _)))))
end Go.Proofs.YtiikjdjpodmpcaaGreat

/- Package wal: valid, Size, Count, Append, Sync, mend. -/
namespace Go.Proofs.YtiikjdjpodmpcaaGreat
open Go.RowKit Go.Maps
set_option linter.unusedVariables false

/-! ### Bytes that lie in a block beside the tree -/
theorem own_argZ {w : World} {B n c : Nat} {A : Option Addr} {l : Str} {Z : List (Nat × Obj)} (ho : Own w B A n c l) (hl : l.length ≤ 10000) :
    (ArgZ Z A n c l) ∨ ∃ g o, B ≤ g ∧ w.heap[g]? = some o ∧ ArgZ ((g, o) :: Z) A n c l := by
  have h0 := ho
  obtain ⟨h1, h2⟩ := ho
  rcases h2 with ⟨hv, hn⟩ | ⟨g, cap, cur, hv, hB, hg, r1, r2, r3, r4⟩
  · injection hv with a b d
    subst a b d
    have : l = [] := by
      rw [bvs_length] at h1
      exact List.eq_nil_of_length_eq_zero (by omega)
    subst this
    exact .inl (ArgZ.nil Z)
  · right
    injection hv with a b d
    subst a d
    refine ⟨g, _, hB, hg, ⟨.inr ⟨g, _, rfl, List.mem_cons_self⟩, fun W hW => ?_, hl⟩⟩
    have hg2 := hW _ List.mem_cons_self
    exact Own.arg (B := 0) (⟨h1, .inr ⟨g, _, _, rfl, Nat.zero_le _, hg2, r1, r2, r3, r4⟩⟩ : Own W 0 (some ⟨g, 0, none⟩) n c l)
theorem ArgZ.take {Z : List (Nat × Obj)} {A : Option Addr} {n c : Nat} {b : Str} (h : ArgZ Z A n c b) (hl : b.length = n) (m : Nat) (hm : m ≤ n) : ArgZ Z A m c (b.take m) := by
  refine ⟨?_, fun W hW => ?_, by rw [List.length_take]; have := h.len; omega⟩
  · rcases h.at_ with ⟨h1, h2, h3, h4⟩ | h1
    · subst h4
      exact .inl ⟨h1, by omega, h3, by simp⟩
    · exact .inr h1
  · have := (h.arg W hW).byt.upto (hi := m) hm
    exact Arg.of_byt this (Nat.le_refl _)

section
variable {w W : World} {tb lb k : Nat} {s : St} {L : Lg} {Z : List (Nat × Obj)}
theorem lvalid_any (hl : LogHas W tb lb L) :
    Calls Tryz.prog 56 #[.pointer (some ⟨lb, 0, none⟩)] W fun e w' => e = .returned (.bool true) ∧ W = w' := by
  have c1 := hl.c1
  clear hl
  go_enter Tryz.func56, Tryz.ntmps56
  go_wp2
  go_ret
  exact ⟨rfl, rfl⟩
theorem lvalid_nil (W : World) :
    Calls Tryz.prog 56 #[.pointer none] W fun e w' => e = .returned (.bool false) ∧ W = w' := by
  go_enter Tryz.func56, Tryz.ntmps56
  go_wp2
  go_ret
  exact ⟨rfl, rfl⟩
theorem lsize_any (hl : LogHas W tb lb L) :
    Calls Tryz.prog 27 #[.pointer (some ⟨lb, 0, none⟩)] W fun e w' => e = .returned (.int .i64 L.size) ∧ W = w' := by
  have X := Lib.hid (lvalid_any hl)
  have c3 := hl.c3
  clear hl
  go_enter Tryz.func27, Tryz.ntmps27
  go_wp2_with fail
  refine X.out.mono ?_
  rintro e w1 ⟨rfl, rfl⟩
  go_wp2
  go_ret
  exact ⟨rfl, rfl⟩
theorem lsize_nil (W : World) :
    Calls Tryz.prog 27 #[.pointer none] W fun e w' => e = .returned (.int .i64 0) ∧ W = w' := by
  go_enter Tryz.func27, Tryz.ntmps27
  go_wp2_with fail
  refine (lvalid_nil W).mono ?_
  rintro e w1 ⟨rfl, rfl⟩
  go_wp2
  go_ret
  exact ⟨rfl, rfl⟩
theorem lcount_any (hl : LogHas W tb lb L) :
    Calls Tryz.prog 28 #[.pointer (some ⟨lb, 0, none⟩)] W fun e w' => e = .returned (.int .i64 L.count) ∧ W = w' := by
  have X := Lib.hid (lvalid_any hl)
  have c4 := hl.c4
  clear hl
  go_enter Tryz.func28, Tryz.ntmps28
  go_wp2_with fail
  refine X.out.mono ?_
  rintro e w1 ⟨rfl, rfl⟩
  go_wp2
  go_ret
  exact ⟨rfl, rfl⟩
theorem lcount_nil (W : World) :
    Calls Tryz.prog 28 #[.pointer none] W fun e w' => e = .returned (.int .i64 0) ∧ W = w' := by
  go_enter Tryz.func28, Tryz.ntmps28
  go_wp2_with fail
  refine (lvalid_nil W).mono ?_
  rintro e w1 ⟨rfl, rfl⟩
  go_wp2
  go_ret
  exact ⟨rfl, rfl⟩

set_option maxRecDepth 100000 in
set_option maxHeartbeats 2000000 in
theorem lsync_any (h : LivZ w tb s k ((lb, logO tb L) :: Z) W) (hk : k + 2 ≤ 1000) (e1 : isPath L.path = true) :
    Calls Tryz.prog 33 #[.pointer (some ⟨lb, 0, none⟩)] W fun e w' => e = .returned (.int .i64 (L.sync s).1.e) ∧ LivZ w tb (L.sync s).2 (k + 2) ((lb, logO tb (L.sync s).1) :: Z) w' := by
  have hlp := isPath_len e1
  have h1 := h.alloc (boxO 28 (.pointer (some ⟨lb, 0, none⟩)))
  obtain ⟨bl, hbl⟩ : ∃ bl, W.heap.size = bl := ⟨_, rfl⟩
  rw [hbl] at h1
  obtain ⟨W1, hW1⟩ : ∃ W1, W.alloc (boxO 28 (.pointer (some ⟨lb, 0, none⟩))) = W1 := ⟨_, rfl⟩
  rw [hW1] at h1
  have h1' := h1.swap
  have V := Lib.hid (lvalid_any h1'.logAt.log)
  have cl := h1'.box (b := bl) (List.mem_cons_of_mem _ List.mem_cons_self)
  have h2 := h1'.alloc (fnsO [.func (.func 61) #[] #[.pointer (some ⟨bl, 0, none⟩)]])
  obtain ⟨rb, hrb⟩ : ∃ rb, W1.heap.size = rb := ⟨_, rfl⟩
  rw [hrb] at h2
  have x := do_any w _ tb lb k s L ((rb, fnsO [.func (.func 61) #[] #[.pointer (some ⟨bl, 0, none⟩)]]) :: (bl, boxO 28 (.pointer (some ⟨lb, 0, none⟩))) :: Z) [fun s => s.sync L.path] [.func (.func 61) #[] #[.pointer (some ⟨bl, 0, none⟩)]] rb 1 h2.swap List.mem_cons_self rfl rfl (by omega) (by omega) (fun i v f hv hf => by
    match i with
    | 0 => cases hv; cases hf; exact stepv_logSync (L := { L with e := 0 }) (by show L.path.length ≤ _; omega) (List.mem_cons_of_mem _ List.mem_cons_self)
    | i + 1 => simp at hv)
  have X := Lib.hid x
  unfold boxO at hW1
  have HW := Lib.hid hW1
  have HB := Lib.hid hbl
  have HRB := Lib.hid hrb
  have hD : Hid ((L.sync s).1 = { L with e := (doS [fun s => s.sync L.path] s L.e).2 } ∧ (L.sync s).2 = (doS [fun s => s.sync L.path] s L.e).1) := ⟨rfl, rfl⟩
  clear h h1 h1' h2 x hW1 hbl hrb e1 hlp
  go_enter Tryz.func33, Tryz.ntmps33
  go_wp2_with fail
  rw [HW.out, HB.out]
  refine V.out.mono ?_
  rintro e w1 ⟨rfl, rfl⟩
  go_wp2_with fail
  rw [HRB.out]
  refine X.out.mono ?_
  rintro e w2 ⟨rfl, hl⟩
  have HL := Lib.hid hl
  clear hl X
  generalize hdd : doS [fun s => s.sync L.path] s L.e = D at *
  obtain ⟨s2, e2⟩ := D
  clear hdd
  simp only at hD HL ⊢
  go_wp2
  go_ret
  rw [hD.out.1, hD.out.2]
  exact ⟨rfl, HL.out.sub (List.Sublist.cons_cons _ (List.Sublist.cons _ (List.Sublist.cons _ (List.Sublist.refl _))))⟩
end
end Go.Proofs.YtiikjdjpodmpcaaGreat

/- Package wal: Append, mend. -/
namespace Go.Proofs.YtiikjdjpodmpcaaGreat
open Go.RowKit Go.Maps
set_option linter.unusedVariables false

section
variable {w W W0 : World} {tb lb k : Nat} {s : St} {L : Lg} {Z : List (Nat × Obj)}
theorem LivZ.own {x : Nat × Obj} {A : Option Addr} {n c : Nat} {l : Str} (h : LivZ w tb s k (x :: Z) W0) (hn : Nx W0 W) (ho : Own W W0.heap.size A n c l) (hl : l.length ≤ 10000) :
    ∃ Z1, Z.Sublist Z1 ∧ LivZ w tb s k (x :: Z1) W ∧ ArgZ Z1 A n c l := by
  rcases own_argZ (Z := Z) ho hl with h1 | ⟨g, o, hB, hg, h1⟩
  · exact ⟨Z, List.Sublist.refl _, h.next hn, h1⟩
  · exact ⟨(g, o) :: Z, List.sublist_cons_self _ _, (h.add hn hB hg).swap, h1⟩
theorem sframe_any (w : World) (r : Str) (hr : r.length ≤ 1048576) :
    Calls Tryz.prog 58 #[.string (S r)] w fun e w' => (∃ A n c, e = .returned (.tuple #[.slice A n c, .int .i64 0]) ∧ Own w' w.heap.size A n c (frame r)) ∧ Nx w w' :=
  (frame_any w (S r) (by rw [S_size]; exact hr)).mono fun e w' ⟨A, n, c, e1, e2, e3⟩ => ⟨⟨A, n, c, e1, e2⟩, e3⟩

set_option maxRecDepth 100000 in
set_option maxHeartbeats 4000000 in
theorem lappend_any (h : LivZ w tb s k ((lb, logO tb L) :: Z) W) (hk : k + 2 ≤ 1000) (e1 : isPath L.path = true) (r : Str) (hr : r.length ≤ 9000) (hs0 : 0 ≤ L.size) (hs1 : L.size ≤ 1000000000000) (hc0 : 0 ≤ L.count) (hc1 : L.count ≤ 1000000000000) :
    Calls Tryz.prog 32 #[.pointer (some ⟨lb, 0, none⟩), .string (S r)] W fun e w' => e = .returned (.int .i64 (L.append s r).1.e) ∧ LivZ w tb (L.append s r).2 (k + 2) ((lb, logO tb (L.append s r).1) :: Z) w' := by
  have hlp := isPath_len e1
  have h1 := h.alloc (boxO 28 (.pointer (some ⟨lb, 0, none⟩)))
  obtain ⟨bl, hbl⟩ : ∃ bl, W.heap.size = bl := ⟨_, rfl⟩
  rw [hbl] at h1
  obtain ⟨W1, hW1⟩ : ∃ W1, W.alloc (boxO 28 (.pointer (some ⟨lb, 0, none⟩))) = W1 := ⟨_, rfl⟩
  rw [hW1] at h1
  have h1' := h1.swap
  have V := Lib.hid (lvalid_any h1'.logAt.log)
  have cl := h1'.box (b := bl) (List.mem_cons_of_mem _ List.mem_cons_self)
  have FR := Lib.hid (sframe_any W1 r (by omega))
  have hfl := frame_length r
  have H1 := Lib.hid h1'
  unfold boxO at hW1
  have HW := Lib.hid hW1
  have HB := Lib.hid hbl
  have HLP := Lib.hid hlp
  have HK := Lib.hid hk
  have HFL := Lib.hid hfl
  have HR := Lib.hid hr
  clear h h1 h1' hW1 hbl e1 hlp hk hfl hr
  generalize hsr : S r = sr at *
  clear hsr
  go_enter Tryz.func32, Tryz.ntmps32
  go_wp2_with fail
  rw [HW.out, HB.out]
  refine V.out.mono ?_
  rintro e w1 ⟨rfl, rfl⟩
  go_wp2_with fail
  refine FR.out.mono ?_
  rintro e w2 ⟨⟨A, n, c, rfl, ho⟩, hn2⟩
  have hlen := ho.len
  have hnl : Hid (n = (frame r).length) := hlen.symm
  have hn9 : n ≤ 9008 := by have := HFL.out; have := HR.out; omega
  obtain ⟨Z1, hsub, h2, hA⟩ := H1.out.own hn2 ho (by omega)
  have h3 := (h2.alloc (boxO 22 (.slice A n c))).swap
  obtain ⟨bf, hbf⟩ : ∃ bf, w2.heap.size = bf := ⟨_, rfl⟩
  rw [hbf] at h3
  obtain ⟨W3, hW3⟩ : ∃ W3, w2.alloc (boxO 22 (.slice A n c)) = W3 := ⟨_, rfl⟩
  rw [hW3] at h3
  have hbl : (bl, boxO 28 (.pointer (some ⟨lb, 0, none⟩))) ∈ Z1 := hsub.subset List.mem_cons_self
  have dl := h2.box (b := bl) (List.mem_cons_of_mem _ hbl)
  have hlt := h2.lt (List.mem_cons_of_mem _ hbl)
  simp only at hlt
  have hne : ¬ bl = w2.heap.size := by omega
  have h4 := h3.alloc (fnsO [.func (.func 60) #[] #[.pointer (some ⟨bl, 0, none⟩), .pointer (some ⟨bf, 0, none⟩)]])
  obtain ⟨rb, hrb⟩ : ∃ rb, bf + 1 = rb := ⟨_, rfl⟩
  have hsz3 : W3.heap.size = rb := by rw [← hW3, ← hrb, ← hbf]; simp
  rw [hsz3] at h4
  have x := do_any w _ tb lb k s L ((rb, fnsO [.func (.func 60) #[] #[.pointer (some ⟨bl, 0, none⟩), .pointer (some ⟨bf, 0, none⟩)]]) :: (bf, boxO 22 (.slice A n c)) :: Z1) [fun s => s.append_ L.path (frame r)] [.func (.func 60) #[] #[.pointer (some ⟨bl, 0, none⟩), .pointer (some ⟨bf, 0, none⟩)]] rb 1 h4.swap List.mem_cons_self rfl rfl (by omega) (by have := HK.out; omega) (fun i v f hv hf => by
    match i with
    | 0 =>
      cases hv
      cases hf
      have hA2 := hA.more (Z' := (rb, fnsO [.func (.func 60) #[] #[.pointer (some ⟨bl, 0, none⟩), .pointer (some ⟨bf, 0, none⟩)]]) :: (bf, boxO 22 (.slice A n c)) :: Z1) (fun z hz => List.mem_cons_of_mem _ (List.mem_cons_of_mem _ hz))
      exact stepv_append (L := { L with e := 0 }) (by show L.path.length ≤ _; have := HLP.out; omega) hA2.at_ hA2.arg hA2.len (List.mem_cons_of_mem _ (List.mem_cons_of_mem _ hbl)) (List.mem_cons_of_mem _ List.mem_cons_self)
    | i + 1 => simp at hv)
  have X := Lib.hid x
  unfold boxO at hW3
  have HW3 := Lib.hid hW3
  have HBF := Lib.hid hbf
  have HRB := Lib.hid hrb
  have HS := Lib.hid hsub
  have HBL := Lib.hid hbl
  have hD : Hid ((L.append s r).1 = (if (doS [fun s => s.append_ L.path (frame r)] s L.e).2 = 0 then { L with size := L.size + (frame r).length, count := L.count + 1, e := (doS [fun s => s.append_ L.path (frame r)] s L.e).2 } else { L with e := (doS [fun s => s.append_ L.path (frame r)] s L.e).2 }) ∧ (L.append s r).2 = (doS [fun s => s.append_ L.path (frame r)] s L.e).1) := by
    unfold Hid Lg.append
    generalize doS [fun s => s.append_ L.path (frame r)] s L.e = q
    obtain ⟨s', e⟩ := q
    simp only
    split <;> exact ⟨rfl, rfl⟩
  clear h2 h3 h4 x hsz3 hW3 hbf hrb ho hn2 hA H1 hsub hbl FR V hlen
  go_wp2_with fail
  rw [HW3.out, HBF.out, HRB.out]
  refine X.out.mono ?_
  rintro e w4 ⟨rfl, hl⟩
  have HL := Lib.hid hl
  clear hl X
  generalize hdd : doS [fun s => s.append_ L.path (frame r)] s L.e = D at *
  obtain ⟨s2, e2⟩ := D
  clear hdd
  simp only at hD HL ⊢
  by_cases h0 : e2 = 0
  · subst h0
    have h5 := HL.out
    have gl := h5.box (b := bl) (List.mem_cons_of_mem _ (List.mem_cons_of_mem _ (List.mem_cons_of_mem _ HBL.out)))
    have gf := h5.box (b := bf) (List.mem_cons_of_mem _ (List.mem_cons_of_mem _ List.mem_cons_self))
    have k3 := h5.logAt.log.c3
    have k4 := h5.logAt.log.c4
    have fz3 := h5.logAt.log.fz 3
    have fz4 := h5.logAt.log.fz 4
    simp only at k3 k4
    have hbl4 : bl ≠ lb := fun e => by
      have := (List.pairwise_cons.1 h5.nd).1 _ (List.mem_cons_of_mem _ (List.mem_cons_of_mem _ HBL.out))
      exact this e.symm
    have i1 : IntKind.i64.wrap (L.size + (n : Int)) = L.size + (n : Int) := IntWalk.i64_in _ (by omega)
    have i2 : IntKind.i64.wrap (L.count + 1) = L.count + 1 := IntWalk.i64_in _ (by omega)
    have h6 := (h5.set 3 (.int .i64 (L.size + (n : Int)))).set 4 (.int .i64 (L.count + 1))
    have H6 := Lib.hid h6
    clear h5 h6
    go_wp2
    go_region
    go_wp2
    go_ret
    rw [hD.out.1, hD.out.2, if_pos trivial, ← hnl.out]
    exact ⟨rfl, H6.out.drew.sub (List.Sublist.cons_cons _ (List.Sublist.cons _ (List.Sublist.cons _ ((List.sublist_cons_self _ _).trans HS.out))))⟩
  · go_wp2
    go_ret
    rw [hD.out.1, hD.out.2, if_neg h0]
    exact ⟨rfl, HL.out.sub (List.Sublist.cons_cons _ (List.Sublist.cons _ (List.Sublist.cons _ ((List.sublist_cons_self _ _).trans HS.out))))⟩
theorem mend_eq (L : Lg) (s : St) (b : Str) (whole : Nat) (count : Int) : (¬ whole < b.length → (L.mend s b whole count).1 = { L with size := whole, count := count, e := (doS [cleanS (tmpOf L.path)] s L.e).2 } ∧ (L.mend s b whole count).2 = (doS [cleanS (tmpOf L.path)] s L.e).1) ∧ (whole < b.length → L.mend s b whole count = L.replace s (b.take whole) count) := by
  unfold Lg.mend
  refine ⟨fun h => ?_, fun h => by rw [if_pos h]⟩
  rw [if_neg h]
  exact ⟨rfl, rfl⟩
set_option maxRecDepth 100000 in
set_option maxHeartbeats 4000000 in
theorem lmend_any (h : LivZ w tb s k ((lb, logO tb L) :: Z) W) (hk : k + 12 ≤ 1000) (e1 : isPath L.path = true) (A : Option Addr) (n c : Nat) (b : Str) (hA : ArgZ Z A n c b) (whole : Nat) (hw : whole ≤ n) (count : Int) :
    Calls Tryz.prog 76 #[.pointer (some ⟨lb, 0, none⟩), .slice A n c, .int .i64 (whole : Int), .int .i64 count] W fun e w' => e = .returned (.int .i64 (L.mend s b whole count).1.e) ∧ LivZ w tb (L.mend s b whole count).2 (k + 12) ((lb, logO tb (L.mend s b whole count).1) :: Z) w' := by
  have harg := hA.arg W fun z hz => h.at_ z (List.mem_cons_of_mem _ hz)
  have hn := harg.len
  have hle := harg.le
  have hcap := harg.cap
  have hl9 := hA.len
  have i0 : (c : Int) ≤ 9223372036854775807 := by unfold maxLen at hcap; omega
  have i1 : (n : Int) ≤ c := by omega
  have i2 : (n : Int) ≤ 10000 := by omega
  by_cases hlt : whole < n
  · have hm := (mend_eq L s b whole count).2 (by omega)
    have X := Lib.hid (lreplace_any w W tb lb k s L Z A whole c (b.take whole) count h hk e1 (hA.take hn whole hw))
    have HM := Lib.hid hm
    have i3 : (whole : Int) < n := by omega
    have i4 : (whole : Int) ≤ c := by omega
    clear h e1 hA harg hn hm
    go_enter Tryz.func76, Tryz.ntmps76
    go_wp2_with fail
    refine X.out.mono ?_
    rintro e w2 ⟨rfl, hl⟩
    have HL := Lib.hid hl
    clear hl X
    go_wp2
    go_ret
    rw [HM.out]
    exact ⟨rfl, HL.out⟩
  · obtain rfl : whole = n := by omega
    have hm := (mend_eq L s b whole count).1 (by omega)
    have h2 := (h.set 3 (.int .i64 (whole : Int))).set 4 (.int .i64 count)
    obtain ⟨W2, hW2⟩ : ∃ W2, (W.setCell ⟨lb, 3, none⟩ (.int .i64 (whole : Int))).setCell ⟨lb, 4, none⟩ (.int .i64 count) = W2 := ⟨_, rfl⟩
    rw [hW2] at h2
    have h2' : LivZ w tb s k ((lb, logO tb { L with size := whole, count := count }) :: Z) W2 := h2
    have h3 := h2'.alloc (fnsO [.func (.func 101) #[.pointer (some ⟨lb, 0, none⟩)] #[]])
    obtain ⟨rb, hrb⟩ : ∃ rb, W2.heap.size = rb := ⟨_, rfl⟩
    rw [hrb] at h3
    have hsz : W.heap.size = rb := by rw [← hrb, ← hW2]; simp
    have x := do_any w _ tb lb k s { L with size := whole, count := count } ((rb, fnsO [.func (.func 101) #[.pointer (some ⟨lb, 0, none⟩)] #[]]) :: Z) [cleanS (tmpOf L.path)] [.func (.func 101) #[.pointer (some ⟨lb, 0, none⟩)] #[]] rb 1 h3.swap List.mem_cons_self rfl rfl (by omega) (by omega) (fun i v f hv hf => by
      match i with
      | 0 => cases hv; cases hf; exact stepv_clean (L := { L with size := whole, count := count, e := 0 }) e1
      | i + 1 => simp at hv)
    have k3 := h.logAt.log.c3
    have k4 := h.logAt.log.c4
    have fz3 := h.logAt.log.fz 3
    have fz4 := h.logAt.log.fz 4
    have X := Lib.hid x
    have HM := Lib.hid hm
    have HW2 := Lib.hid hW2
    have HSZ := Lib.hid hsz
    clear h e1 hA harg hn hm h2 h2' h3 hrb x hW2 hsz
    go_enter Tryz.func76, Tryz.ntmps76
    go_wp2_with fail
    rw [HW2.out, HSZ.out]
    refine X.out.mono ?_
    rintro e w2 ⟨rfl, hl⟩
    have HL := Lib.hid hl
    clear hl X
    go_wp2
    go_ret
    rw [HM.out.1, HM.out.2]
    refine ⟨rfl, (HL.out.up (by omega)).sub (List.Sublist.cons_cons _ (List.sublist_cons_self _ _))⟩
end
end Go.Proofs.YtiikjdjpodmpcaaGreat

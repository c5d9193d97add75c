/- Walks of package wire: Sum, which ranges over slices.Chunk. -/
import Derived.Test.YtiikjdjpodmpcaaGreatWiOps
import Derived.RangeFuncNested
import Derived.RangeFuncBound
import Derived.RangeFuncCalls
import Derived.RangeFuncLeaves
import Derived.RangeFuncBox
import Derived.Shelf.Abstract
import Derived.Shelf.RegionOpen
import Derived.OwnWalkIn
import Derived.TacticsInMore
import Derived.LoopNIn
import Derived.LoopIn
import Derived.Sort.BigQuietIn
namespace Go.Proofs.YtiikjdjpodmpcaaGreat
open Go.RowKit Go.Shelf
set_option linter.unusedVariables false

attribute [local go_sem] Oper.semAt_some

/-- The k-th chunk of st bytes (the last one has fewer; behind it there are none). -/
def chunkAt (st k : Nat) : Nat := st * k
def chunkLen (st len k : Nat) : Nat := min st (len - st * k)
def chunkV (st b off len k : Nat) : Value := .slice (some ⟨b, off + chunkAt st k, none⟩) (chunkLen st len k) (chunkLen st len k)
/-- How many chunks there are. -/
def chunks (st len : Nat) : Nat := (len + (st - 1)) / st
theorem chunkAt_succ (st k : Nat) : chunkAt st (k + 1) = chunkAt st k + st := by simp [chunkAt, Nat.mul_add]
theorem chunks_of (st len k : Nat) (hs : 1 ≤ st) (h1 : k ≤ chunks st len) (h2 : len ≤ chunkAt st k) : k = chunks st len := by
  unfold chunks chunkAt at *
  refine Nat.le_antisymm h1 ?_
  have h3 : (len + (st - 1)) / st < k + 1 := by
    rw [Nat.div_lt_iff_lt_mul (by omega), Nat.mul_comm, Nat.mul_add]
    omega
  omega
theorem chunks_lt (st len k : Nat) (hs : 1 ≤ st) (h2 : chunkAt st k < len) : k < chunks st len := by
  unfold chunks chunkAt at *
  rw [Nat.lt_iff_add_one_le, Nat.le_div_iff_mul_le (by omega), Nat.add_mul, Nat.mul_comm]
  omega
theorem chunkLen_full (st len k : Nat) (h : chunkAt st k + st ≤ len) : chunkLen st len k = st := by unfold chunkLen chunkAt at *; omega
theorem chunkLen_rest (st len k : Nat) (h : len ≤ chunkAt st k + st) : chunkLen st len k = len - chunkAt st k := by unfold chunkLen chunkAt at *; omega

/-- What the iterator reads between two rounds: its two boxes. -/
def KB2 (Bs Bn : Nat) (W W' : World) : Prop := W'.cell? ⟨Bs, 0, none⟩ = W.cell? ⟨Bs, 0, none⟩ ∧ W'.cell? ⟨Bn, 0, none⟩ = W.cell? ⟨Bn, 0, none⟩
theorem KB2.refl (Bs Bn : Nat) (W : World) : KB2 Bs Bn W W := ⟨rfl, rfl⟩
theorem KB2.trans {Bs Bn : Nat} {A B C : World} (h : KB2 Bs Bn A B) (k : KB2 Bs Bn B C) : KB2 Bs Bn A C := ⟨k.1.trans h.1, k.2.trans h.2⟩
theorem KB2.drewN {Bs Bn : Nat} {A B : World} (h : KB2 Bs Bn A B) (q : Nat) : KB2 Bs Bn A (B.drewN q) := h
theorem KB2.putObj {Bs Bn : Nat} (W : World) (l : Nat) (o' : Obj) (h1 : Bs ≠ l) (h2 : Bn ≠ l) : KB2 Bs Bn W (W.putObj l o') :=
  ⟨World.cell?_of_block (World.putObj_heap_other h1), World.cell?_of_block (World.putObj_heap_other h2)⟩
theorem KB2.setCell {Bs Bn : Nat} (W : World) (p : Addr) (u : Value) (h1 : Bs ≠ p.block) (h2 : Bn ≠ p.block) : KB2 Bs Bn W (W.setCell p u) :=
  ⟨World.cell?_of_block (Below.heap_setCell W p u Bs h1), World.cell?_of_block (Below.heap_setCell W p u Bn h2)⟩
theorem below_drewN {B : Nat} {a w : World} (h : Below B a w) (q : Nat) : Below B a (w.drewN q) := ⟨h.os, h.tape, h.output, h.size, h.block⟩

set_option maxRecDepth 100000 in
set_option maxHeartbeats 2000000 in
theorem chunk1_in (F : Fence) (n : Nat) (hf : F.fn 138) (hro : F.round = none) (hn : 1 ≤ n) (st l Bs Bn b off len cap : Nat) (hst : 1 ≤ st) (hst2 : st ≤ 1099511627776) (hlc : len ≤ cap) (hlen : len ≤ 1099511627776) (hcap : cap ≤ 9223372036854775807) (J Jx : List Nat → World → Prop) (hJ : ∀ s W q, J s W → J s (W.drewN q))
    (hY : ∀ pre k W, J pre W → pre.length < chunks st len → YieldAt F (n - 1) Tryz.prog l #[chunkV st b off len k] W fun e W' =>
      (e = .returned (.bool true) ∧ J (pre ++ [k]) W' ∧ KB2 Bs Bn W W') ∨ (e = .returned (.bool false) ∧ Jx (pre ++ [k]) W'))
    (W : World) (hBs : W.cell? ⟨Bs, 0, none⟩ = some (.slice (some ⟨b, off, none⟩) len cap)) (hBn : W.cell? ⟨Bn, 0, none⟩ = some (.int .i64 st)) (h0 : J [] W) :
    CallsIn F n Tryz.prog 138 #[.func (.yield l) #[] #[], .pointer (some ⟨Bs, 0, none⟩), .pointer (some ⟨Bn, 0, none⟩)] W fun e W' => (∃ v, e = .returned v) ∧
      ((∃ ys, ys = List.range (chunks st len) ∧ J ys W') ∨ (∃ pre, Jx pre W')) := by
  refine callsIn_of_wp Tryz.func138 rfl hf ?_ hro
  simp only [Tryz.ntmps138, List.size_toArray, List.length_cons, List.length_nil, Nat.reduceAdd, Nat.reduceSub, Array.replicate_succ, Array.replicate_zero, List.push_toArray, List.append_toArray, List.nil_append, List.cons_append]
  gi_wp2
  gi_loopw [4] (fun i wr => ∃ k : Nat, k ≤ chunks st len ∧ i = .int .i64 (chunkAt st k : Nat) ∧ J (List.range k) wr ∧ KB2 Bs Bn W wr)
    (fun i _ => 1099511627776 + len - (intOf i).toNat)
  case atStart => exact ⟨0, Nat.zero_le _, by simp [chunkAt], h0, KB2.refl _ _ _⟩
  case round =>
    obtain ⟨k, hk, rfl, hJs, hnx⟩ := hrel
    have hcs : wr.cell? ⟨Bs, 0, none⟩ = some (.slice (some ⟨b, off, none⟩) len cap) := hnx.1.trans hBs
    have hcn : wr.cell? ⟨Bn, 0, none⟩ = some (.int .i64 st) := hnx.2.trans hBn
    by_cases hlt : chunkAt st k < len
    · have Hs := Lib.hid (chunkAt_succ st k)
      have hk1 := chunks_lt st len k hst hlt
      have hY2 := fun q => hY _ k (wr.drewN q) (hJ _ _ q hJs) (by rw [List.length_range]; exact hk1)
      unfold chunkV at hY2
      by_cases hfull : chunkAt st k + st ≤ len
      · rw [chunkLen_full st len k hfull] at hY2
        generalize hi : chunkAt st k = i at *
        have Hi := Lib.hid hi
        have HY := Lib.hid hY2
        clear hi hY2
        gi_wp2
        refine wpIn_region_quiet_lit hro (by kernel_rfl) (by kernel_rfl) ?_
        repeat (gi_big_quiet_step (fail))
        refine wpQuietIn_nil ?_
        rintro _ ⟨nq, rfl⟩
        obtain ⟨fn, tmps, assign, body, hy, hR⟩ := HY.out nq
        gi_wp2
        refine hR.mono ?_
        rintro e W3 (⟨rfl, hJ3, hk3⟩ | ⟨rfl, hJx3⟩)
        · have hcn3 : W3.cell? ⟨Bn, 0, none⟩ = some (.int .i64 st) := hk3.2.trans hcn
          gi_wp2
          go_roundw
          case rel => exact ⟨k + 1, by omega, by rw [Hs.out]; go_num, by rw [List.range_succ]; exact hJ3, (hnx.drewN nq).trans hk3⟩
          case measure => simp [intOf]; omega
        · gi_wp2
          refine bodyPost_ret (results_none rfl _ _ _) rfl ?_
          exact ⟨⟨_, rfl⟩, .inr ⟨_, hJx3⟩⟩
      · rw [chunkLen_rest st len k (by omega)] at hY2
        generalize hi : chunkAt st k = i at *
        have Hi := Lib.hid hi
        have HY := Lib.hid hY2
        clear hi hY2
        have em : ((len - i : Nat) : Int) = (len : Int) - i := by omega
        have Hm := Lib.hid em
        clear em
        gi_wp2
        refine wpIn_region_quiet_lit hro (by kernel_rfl) (by kernel_rfl) ?_
        repeat (gi_big_quiet_step (fail))
        refine wpQuietIn_nil ?_
        rintro _ ⟨nq, rfl⟩
        obtain ⟨fn, tmps, assign, body, hy, hR⟩ := HY.out nq
        gi_wp2
        refine hR.mono ?_
        rintro e W3 (⟨rfl, hJ3, hk3⟩ | ⟨rfl, hJx3⟩)
        · have hcn3 : W3.cell? ⟨Bn, 0, none⟩ = some (.int .i64 st) := hk3.2.trans hcn
          gi_wp2
          go_roundw
          case rel => exact ⟨k + 1, by omega, by rw [Hs.out]; go_num, by rw [List.range_succ]; exact hJ3, (hnx.drewN nq).trans hk3⟩
          case measure => simp [intOf]; omega
        · gi_wp2
          refine bodyPost_ret (results_none rfl _ _ _) rfl ?_
          exact ⟨⟨_, rfl⟩, .inr ⟨_, hJx3⟩⟩
    · have Hk := Lib.hid (chunks_of st len k hst hk (by omega))
      generalize hi : chunkAt st k = i at *
      clear hi
      gi_wp2
      go_end0
      exact ⟨⟨_, rfl⟩, .inl ⟨_, by rw [← Hk.out], hJs⟩⟩

set_option maxRecDepth 100000 in
set_option maxHeartbeats 1000000 in
/-- .. at a slice of no bytes, nil or not: no round. -/
theorem chunk1_nil_in (F : Fence) (n : Nat) (hf : F.fn 138) (hro : F.round = none) (l Bs Bn : Nat) (A : Option Addr) (cap : Nat) (J : List Nat → World → Prop) (W : World) (hBs : W.cell? ⟨Bs, 0, none⟩ = some (.slice A 0 cap)) (h0 : J [] W) :
    CallsIn F n Tryz.prog 138 #[.func (.yield l) #[] #[], .pointer (some ⟨Bs, 0, none⟩), .pointer (some ⟨Bn, 0, none⟩)] W fun e W' => (∃ v, e = .returned v) ∧ J [] W' := by
  refine callsIn_of_wp Tryz.func138 rfl hf ?_ hro
  simp only [Tryz.ntmps138, List.size_toArray, List.length_cons, List.length_nil, Nat.reduceAdd, Nat.reduceSub, Array.replicate_succ, Array.replicate_zero, List.push_toArray, List.append_toArray, List.nil_append, List.cons_append]
  gi_wp2
  gi_loopw [4] (fun i wr => i = .int .i64 0 ∧ wr = W) (fun _ _ => 0)
  case atStart => exact ⟨rfl, rfl⟩
  case round =>
    obtain ⟨rfl, rfl⟩ := hrel
    gi_wp2
    go_end0
    exact ⟨⟨_, rfl⟩, h0⟩

set_option maxHeartbeats 1000000 in
/-- slices.Chunk(s, st): both are boxed; the function value captures the boxes. -/
theorem chunk_in (F : Fence) (n : Nat) (hf : F.fn 113) (hro : F.round = none) (A : Option Addr) (len cap : Nat) (w : World) :
    CallsIn F n Tryz.prog 113 #[.slice A len cap, .int .i64 65536] w fun e w' => e = .returned (.func (.func 138) #[] #[.pointer (some ⟨w.heap.size, 0, none⟩), .pointer (some ⟨w.heap.size + 1, 0, none⟩)]) ∧
      w' = (w.alloc (.cells #[.slice A len cap] 22)).alloc (.cells #[.int .i64 65536] 3) := by
  refine callsIn_of_wp Tryz.func113 rfl hf ?_ hro
  simp only [Tryz.ntmps113, List.size_toArray, List.length_cons, List.length_nil, Nat.reduceAdd, Nat.reduceSub, Array.replicate_succ, Array.replicate_zero, List.push_toArray, List.append_toArray, List.nil_append, List.cons_append]
  gi_wp2
  go_ret
  exact ⟨rfl, rfl⟩

/-- A contract over a fixed fence that stops nowhere. -/
theorem chunk_stops (F : Fence) (n : Nat) (hf : F.fn 138) (hro : F.round = none) (hn : 1 ≤ n) (st Bs Bn b off len cap : Nat) (hst : 1 ≤ st) (hst2 : st ≤ 1099511627776) (hlc : len ≤ cap) (hlen : len ≤ 1099511627776) (hcap : cap ≤ 9223372036854775807) (w : World) (hBs' : Bs < w.heap.size) (hBn' : Bn < w.heap.size)
    (hBs : w.cell? ⟨Bs, 0, none⟩ = some (.slice (some ⟨b, off, none⟩) len cap)) (hBn : w.cell? ⟨Bn, 0, none⟩ = some (.int .i64 st)) :
    SeqStopsK F n Tryz.prog 138 #[.pointer (some ⟨Bs, 0, none⟩), .pointer (some ⟨Bn, 0, none⟩)] (fun k : Nat => #[chunkV st b off len k]) (KB2 Bs Bn) (fun ys => ys = List.range (chunks st len)) (fun _ => True) (chunks st len) w := fun l J Jx W hW hJ _ hY h0 => by
  have hb1 := hW.cell (p := ⟨Bs, 0, none⟩) hBs'
  have hb2 := hW.cell (p := ⟨Bn, 0, none⟩) hBn'
  refine (chunk1_in F n hf hro hn st l Bs Bn b off len cap hst hst2 hlc hlen hcap J Jx (fun s W q hs => hJ s W _ none hs ⟨rfl, rfl, rfl, Nat.le_refl _, fun _ _ _ => rfl⟩ (fun r e => by cases e)) hY W (hb1.trans hBs) (hb2.trans hBn) h0).mono ?_
  rintro e W' ⟨he, ⟨ys, rfl, hj⟩ | ⟨pre, hj⟩⟩
  · exact ⟨he, .inl ⟨_, rfl, hj⟩⟩
  · exact ⟨he, .inr ⟨_, trivial, hj⟩⟩
theorem chunk_stops_nil (F : Fence) (n : Nat) (hf : F.fn 138) (hro : F.round = none) (st Bs Bn b off : Nat) (A : Option Addr) (cap : Nat) (w : World) (hst : 1 ≤ st) (hBs' : Bs < w.heap.size)
    (hBs : w.cell? ⟨Bs, 0, none⟩ = some (.slice A 0 cap)) :
    SeqStopsK F n Tryz.prog 138 #[.pointer (some ⟨Bs, 0, none⟩), .pointer (some ⟨Bn, 0, none⟩)] (fun k : Nat => #[chunkV st b off 0 k]) (KB2 Bs Bn) (fun ys => ys = List.range (chunks st 0)) (fun _ => True) (chunks st 0) w := fun l J Jx W hW _ _ _ h0 => by
  have hb1 := hW.cell (p := ⟨Bs, 0, none⟩) hBs'
  refine (chunk1_nil_in F n hf hro l Bs Bn A cap J W (hb1.trans hBs) h0).mono ?_
  rintro e W' ⟨he, hj⟩
  refine ⟨he, .inl ⟨[], ?_, hj⟩⟩
  have : chunks st 0 = 0 := by
    unfold chunks
    rw [Nat.zero_add]
    exact Nat.div_eq_of_lt (by omega)
  rw [this]
  rfl

/-- A new box: its cell, not frozen; and what stays so behind a further new block. -/
theorem box_cell (w : World) (v : Value) (t : TypeId) : (w.alloc (.cells #[v] t)).cell? ⟨w.heap.size, 0, none⟩ = some v ∧ (w.alloc (.cells #[v] t)).frozen? ⟨w.heap.size, 0, none⟩ = false := by
  constructor
  · simp
  · simp
theorem later_cell {w : World} {a : Addr} {v : Value} (o : Obj) (h : w.cell? a = some v) : (w.alloc o).cell? a = some v :=
  (World.cell?_alloc_lt w o a (World.block_lt_of_cell? w a h)).trans h
theorem later_frozen {w : World} {a : Addr} {v : Value} (o : Obj) (h : w.cell? a = some v) (hf : w.frozen? a = false) : (w.alloc o).frozen? a = false :=
  (World.frozen?_of_block (Below.heap_alloc w o a.block (World.block_lt_of_cell? w a h))).trans hf

/-! ### Sum itself -/
/-- The k-th chunk's bytes; the bytes of several chunks. -/
def chunkB (st : Nat) (l : List UInt8) (k : Nat) : List UInt8 := (l.drop (st * k)).take st
def chunkBs (st : Nat) (l : List UInt8) (ks : List Nat) : List UInt8 := ks.flatMap (chunkB st l)
theorem chunkBs_snoc (st : Nat) (l : List UInt8) (ks : List Nat) (k : Nat) : chunkBs st l (ks ++ [k]) = chunkBs st l ks ++ chunkB st l k := by simp [chunkBs]
theorem chunkB_length (st : Nat) (l : List UInt8) (k : Nat) : (chunkB st l k).length = chunkLen st l.length k := by simp [chunkB, chunkLen]
theorem chunkBs_range (st : Nat) (l : List UInt8) (k : Nat) : chunkBs st l (List.range k) = l.take (st * k) := by
  induction k with
  | zero => simp [chunkBs]
  | succ k ih => rw [List.range_succ, chunkBs_snoc, ih, chunkB, Nat.mul_add, Nat.mul_one, List.take_add]
theorem chunkBs_all (st : Nat) (l : List UInt8) (hs : 1 ≤ st) : chunkBs st l (List.range (chunks st l.length)) = l := by
  rw [chunkBs_range]
  refine List.take_of_length_le ?_
  unfold chunks
  have h1 := Nat.div_add_mod (l.length + (st - 1)) st
  have h2 := Nat.mod_lt (l.length + (st - 1)) (show 0 < st by omega)
  omega
theorem chunkB_nth (st : Nat) (l : List UInt8) (k j : Nat) (h : j < st) : nth (chunkB st l k) j = nth l (chunkAt st k + j) := by
  rw [chunkB, nth_take _ _ _ h, nth_drop]
  rfl

/-- The two sums when i bytes of a chunk c are added to what stands for p. -/
def stepLo (p c : List UInt8) (i : Nat) : Nat := lowN p % 65521 + sumN (c.take i)
def stepHi (p c : List UInt8) (i : Nat) : Nat := highN p % 65521 + i * (lowN p % 65521) + sumS (c.take i)
theorem stepLo_succ (p c : List UInt8) (i : Nat) (h : i < c.length) : (stepLo p c (i + 1) : Int) = stepLo p c i + nth c i := by
  rw [nth_eq c i h]
  unfold stepLo
  rw [take_snoc' c i h, sumN_append]
  simp [sumN]
  omega
theorem stepHi_succ (p c : List UInt8) (i : Nat) (h : i < c.length) : stepHi p c (i + 1) = stepHi p c i + stepLo p c (i + 1) := by
  unfold stepHi stepLo
  rw [take_snoc' c i h, sumN_append, sumS_append, Nat.add_mul]
  simp [sumN, sumS]
  omega
theorem stepLo_le (p c : List UInt8) (i : Nat) (h : c.length ≤ 65536) : stepLo p c i ≤ 65520 + 255 * 65536 := by
  unfold stepLo
  have h1 := sumN_le (c.take i)
  have h2 : (c.take i).length ≤ 65536 := by simp; omega
  omega
theorem stepHi_le (p c : List UInt8) (i : Nat) (h : c.length ≤ 65536) (hi : i ≤ c.length) : stepHi p c i ≤ 65520 + 65536 * 65520 + 255 * 65536 * 65536 := by
  unfold stepHi
  have h1 := sumS_le (c.take i)
  have h2 : (c.take i).length ≤ 65536 := by simp; omega
  have h3 : 255 * (c.take i).length * (c.take i).length ≤ 255 * 65536 * 65536 := Nat.mul_le_mul (Nat.mul_le_mul_left _ h2) h2
  have h4 : i * (lowN p % 65521) ≤ 65536 * 65520 := Nat.mul_le_mul (by omega) (by omega)
  omega
theorem stepLo_end (p c : List UInt8) : stepLo p c c.length % 65521 = lowN (p ++ c) % 65521 := by
  unfold stepLo lowN
  rw [List.take_length, sumN_append]
  omega
theorem stepHi_end (p c : List UInt8) : stepHi p c c.length % 65521 = highN (p ++ c) % 65521 := by
  unfold stepHi highN
  rw [List.take_length, sumS_append, List.length_append]
  have h1 : c.length * (lowN p % 65521) % 65521 = (c.length * lowN p) % 65521 := by rw [Nat.mul_mod, Nat.mod_mod, ← Nat.mul_mod]
  have h2 : c.length * lowN p = c.length + c.length * sumN p := by unfold lowN; rw [Nat.mul_add, Nat.mul_one]
  rw [h2] at h1
  omega

/-- Between two rounds: the boxes L and L + 1 hold the reduced sums of the bytes that have come. -/
def SumI (w : World) (L st : Nat) (l : List UInt8) (ks : List Nat) (W : World) : Prop :=
  ((W.cell? ⟨L, 0, none⟩ = some (.int .u64 (lowN (chunkBs st l ks) % 65521 : Nat)) ∧ W.frozen? ⟨L, 0, none⟩ = false) ∧ (W.cell? ⟨L + 1, 0, none⟩ = some (.int .u64 (highN (chunkBs st l ks) % 65521 : Nat)) ∧ W.frozen? ⟨L + 1, 0, none⟩ = false)) ∧ Below w.heap.size w W

/-- The chunk lies within the bytes. -/
theorem chunk_in_len (st len k : Nat) (h : 0 < chunkLen st len k) : chunkAt st k + chunkLen st len k ≤ len := by unfold chunkLen chunkAt at *; omega

/-- In a round's inner loop: W is the world at its start, wr the world when j bytes of c are added. -/
def SumR (w W wr : World) (L Bs Bn : Nat) (p c : List UInt8) (j : Nat) : Prop :=
  wr.cell? ⟨L, 0, none⟩ = some (.int .u64 (stepLo p c j : Nat)) ∧ wr.frozen? ⟨L, 0, none⟩ = false ∧ wr.cell? ⟨L + 1, 0, none⟩ = some (.int .u64 (stepHi p c j : Nat)) ∧ wr.frozen? ⟨L + 1, 0, none⟩ = false ∧
    KeepsOthers W wr ∧ KB2 Bs Bn W wr ∧ Below w.heap.size w wr
theorem SumR.start {w W : World} {L st : Nat} {l : List UInt8} {ks : List Nat} (Bs Bn : Nat) (c : List UInt8) (h : SumI w L st l ks W) : SumR w W W L Bs Bn (chunkBs st l ks) c 0 := by
  obtain ⟨⟨⟨h1, h2⟩, h3, h4⟩, h5⟩ := h
  refine ⟨?_, h2, ?_, h4, KeepsOthers.refl _, KB2.refl _ _ _, h5⟩
  · rw [h1]; simp [stepLo, sumN]
  · rw [h3]; simp [stepHi, sumS]
theorem two_cells {W : World} {L : Nat} {u v x y : Value} (h1 : W.cell? ⟨L, 0, none⟩ = some u) (h3 : W.cell? ⟨L + 1, 0, none⟩ = some v) :
    ((W.setCell ⟨L, 0, none⟩ x).setCell ⟨L + 1, 0, none⟩ y).cell? ⟨L, 0, none⟩ = some x ∧ ((W.setCell ⟨L, 0, none⟩ x).setCell ⟨L + 1, 0, none⟩ y).cell? ⟨L + 1, 0, none⟩ = some y := by
  constructor
  · rw [World.cell?_setCell_other _ _ _ _ (fun e => by injection e with e; omega)]
    exact World.cell?_setCell_same' _ _ _ (by rw [h1]; rfl)
  · refine World.cell?_setCell_same' _ _ _ ?_
    rw [World.cell?_setCell_other _ _ _ _ (fun e => by injection e with e; omega), h3]
    rfl
theorem SumR.both {w W wr : World} {L Bs Bn : Nat} {p c : List UInt8} {j : Nat} (h : SumR w W wr L Bs Bn p c j) (x y : Value) (hL : w.heap.size ≤ L) (h1 : Bs ≠ L) (h2 : Bs ≠ L + 1) (h3 : Bn ≠ L) (h4 : Bn ≠ L + 1) :
    let w' := (wr.setCell ⟨L, 0, none⟩ x).setCell ⟨L + 1, 0, none⟩ y
    w'.cell? ⟨L, 0, none⟩ = some x ∧ w'.frozen? ⟨L, 0, none⟩ = false ∧ w'.cell? ⟨L + 1, 0, none⟩ = some y ∧ w'.frozen? ⟨L + 1, 0, none⟩ = false ∧ KeepsOthers W w' ∧ KB2 Bs Bn W w' ∧ Below w.heap.size w w' := by
  obtain ⟨c1, f1, c2, f2, ko, k2, hb⟩ := h
  have hc := two_cells (x := x) (y := y) c1 c2
  refine ⟨hc.1, ?_, hc.2, ?_, (ko.trans (KeepsOthers.setCell _ _ _)).trans (KeepsOthers.setCell _ _ _), (k2.trans (KB2.setCell _ _ _ h1 h3)).trans (KB2.setCell _ _ _ h2 h4), (hb.setCell (p := ⟨L, 0, none⟩) hL _).setCell (p := ⟨L + 1, 0, none⟩) (by show _ ≤ L + 1; omega) _⟩
  · rw [World.frozen?_setCell, World.frozen?_setCell]; exact f1
  · rw [World.frozen?_setCell, World.frozen?_setCell]; exact f2
theorem SumR.step {w W wr : World} {L Bs Bn : Nat} {p c : List UInt8} {j : Nat} (h : SumR w W wr L Bs Bn p c j) (hj : j < c.length) (hL : w.heap.size ≤ L) (h1 : Bs ≠ L) (h2 : Bs ≠ L + 1) (h3 : Bn ≠ L) (h4 : Bn ≠ L + 1) :
    SumR w W ((wr.setCell ⟨L, 0, none⟩ (.int .u64 ((stepLo p c j : Int) + nth c j))).setCell ⟨L + 1, 0, none⟩ (.int .u64 ((stepHi p c j : Int) + ((stepLo p c j : Int) + nth c j)))) L Bs Bn p c (j + 1) := by
  have e1 := stepLo_succ p c j hj
  have e2 : ((stepHi p c (j + 1) : Nat) : Int) = (stepHi p c j : Int) + (stepLo p c (j + 1) : Int) := by
    rw [stepHi_succ p c j hj]
    omega
  unfold SumR
  rw [e2, e1]
  exact h.both _ _ hL h1 h2 h3 h4
theorem SumR.last {w W wr : World} {L Bs Bn st : Nat} {l : List UInt8} {ks : List Nat} {k : Nat} (h : SumR w W wr L Bs Bn (chunkBs st l ks) (chunkB st l k) (chunkB st l k).length) (hL : w.heap.size ≤ L) (h1 : Bs ≠ L) (h2 : Bs ≠ L + 1) (h3 : Bn ≠ L) (h4 : Bn ≠ L + 1) :
    let w' := (wr.setCell ⟨L, 0, none⟩ (.int .u64 ((stepLo (chunkBs st l ks) (chunkB st l k) (chunkB st l k).length : Int) % 65521))).setCell ⟨L + 1, 0, none⟩ (.int .u64 ((stepHi (chunkBs st l ks) (chunkB st l k) (chunkB st l k).length : Int) % 65521))
    KeepsOthers W w' ∧ KB2 Bs Bn W w' ∧ (((w'.cell? ⟨L, 0, none⟩ = some (.int .u64 (lowN (chunkBs st l (ks ++ [k])) % 65521 : Nat)) ∧ w'.frozen? ⟨L, 0, none⟩ = false) ∧ (w'.cell? ⟨L + 1, 0, none⟩ = some (.int .u64 (highN (chunkBs st l (ks ++ [k])) % 65521 : Nat)) ∧ w'.frozen? ⟨L + 1, 0, none⟩ = false)) ∧ Below w.heap.size w w') := by
  have e1 := stepLo_end (chunkBs st l ks) (chunkB st l k)
  have e2 := stepHi_end (chunkBs st l ks) (chunkB st l k)
  have f1 : ((lowN (chunkBs st l (ks ++ [k])) % 65521 : Nat) : Int) = (stepLo (chunkBs st l ks) (chunkB st l k) (chunkB st l k).length : Int) % 65521 := by
    rw [chunkBs_snoc, ← e1]
    omega
  have f2 : ((highN (chunkBs st l (ks ++ [k])) % 65521 : Nat) : Int) = (stepHi (chunkBs st l ks) (chunkB st l k) (chunkB st l k).length : Int) % 65521 := by
    rw [chunkBs_snoc, ← e2]
    omega
  rw [f1, f2]
  obtain ⟨a1, a2, a3, a4, a5, a6, a7⟩ := h.both (.int .u64 ((stepLo (chunkBs st l ks) (chunkB st l k) (chunkB st l k).length : Int) % 65521)) (.int .u64 ((stepHi (chunkBs st l ks) (chunkB st l k) (chunkB st l k).length : Int) % 65521)) hL h1 h2 h3 h4
  exact ⟨a5, a6, ⟨⟨a1, a2⟩, a3, a4⟩, a7⟩
theorem SumI.own (w : World) (L st : Nat) (l : List UInt8) (B : Nat) (hB : w.heap.size ≤ B) : OwnFrom B (SumI w L st l) :=
  OwnFrom.and (Go.Own.from (fun s A B row hs hg hr => ⟨⟨cell_kept hs.1.1 hg hr, (frozen_kept hs.1.1 hg hr).trans hs.1.2⟩, cell_kept hs.2.1 hg hr, (frozen_kept hs.2.1 hg hr).trans hs.2.2⟩) _) (ownFrom_below (Nat.le_refl _) hB)

set_option maxRecDepth 100000 in
set_option maxHeartbeats 2000000 in
theorem sum_in (F : Fence) (n : Nat) (hf1 : F.fn 71) (hf2 : F.fn 113) (hf3 : F.fn 138) (hck : ∀ (lo hi : Int) (W : World), 0 ≤ lo → lo < 65521 → 0 ≤ hi → hi < 65521 → CallsIn F (n - 1) Tryz.prog 114 #[.int .u64 lo, .int .u64 hi] W fun e w' => e = .returned (.int .u32 (hi * 65536 + lo)) ∧ W = w')
    (hf4 : F.fn 114) (hro : F.round = none) (hn : 3 ≤ n) (w : World) (b off len cap : Nat) (l : List UInt8) (h : Byt w w.heap.size (some ⟨b, off, none⟩) len cap l) (hlen : len ≤ 1099511627776) :
    CallsIn F n Tryz.prog 71 #[.slice (some ⟨b, off, none⟩) len cap] w fun e W' => e = .returned (.int .u32 (adl l : Nat)) ∧ Below w.heap.size w W' := by
  have h1 : 1 ≤ n := by omega
  have hcap := h.cap
  have hle := h.le
  unfold maxLen at hcap
  have Hl := Lib.hid h.len
  obtain ⟨st, hst⟩ : ∃ st : Nat, st = 65536 := ⟨_, rfl⟩
  have Hst := Lib.hid hst
  have hst1 : 1 ≤ st := by omega
  have hst2 : st ≤ 65536 := by omega
  clear hst
  refine callsIn_of_wp_marks Tryz.func71 rfl hf1 ?_ hro
  simp only [Tryz.ntmps71, List.size_toArray, List.length_cons, List.length_nil, Nat.reduceAdd, Nat.reduceSub, Array.replicate_succ, Array.replicate_zero, List.push_toArray, List.append_toArray, List.nil_append, List.cons_append]
  gi_wp2_with (gi_at_call 113; refine (chunk_in F (n - 1) hf2 hro _ _ _ _).mono ?_; rintro e w' ⟨rfl, rfl⟩)
  have hB0 : Below w.heap.size w ((((w.alloc (.cells #[.int .u64 1] 78)).alloc (.cells #[.int .u64 0] 78)).alloc (.cells #[.slice (some ⟨b, off, none⟩) len cap] 22)).alloc (.cells #[.int .i64 65536] 3)) :=
    ((((Below.refl _ w).alloc (Nat.le_refl _) _).alloc (by simp) _).alloc (by simp; omega) _).alloc (by simp; omega) _
  have c0 := box_cell w (.int .u64 1) 78
  have c1 := box_cell (w.alloc (.cells #[.int .u64 1] 78)) (.int .u64 0) 78
  have c2 := box_cell ((w.alloc (.cells #[.int .u64 1] 78)).alloc (.cells #[.int .u64 0] 78)) (.slice (some ⟨b, off, none⟩) len cap) 22
  have c3 := box_cell (((w.alloc (.cells #[.int .u64 1] 78)).alloc (.cells #[.int .u64 0] 78)).alloc (.cells #[.slice (some ⟨b, off, none⟩) len cap] 22)) (.int .i64 65536) 3
  simp only [World.size_alloc] at c1 c2 c3
  refine wpIn_rangeFunc_ownF hro h1 (gf := 138) (lb := #[.pointer (some ⟨w.heap.size + 1 + 1, 0, none⟩), .pointer (some ⟨w.heap.size + 1 + 1 + 1, 0, none⟩)]) rfl hf3 (enters_of Tryz.func138 (by kernel_rfl) rfl)
    (chunk_stops F (n - 1) hf3 hro (by omega) st (w.heap.size + 1 + 1) (w.heap.size + 1 + 1 + 1) b off len cap hst1 (by omega) hle hlen (by omega) _ (by simp) (by simp) (later_cell _ c2.1) (by rw [Hst.out]; exact c3.1))
    KB2.trans (fun W l o o' hl _ _ _ => KB2.putObj W l o' (by simp at hl; omega) (by simp at hl; omega)) (Below.refl _ _) (fun _ => rfl)
    (SumI w w.heap.size st l) (fun _ _ _ => False) (SumI.own _ _ _ _ _ (by simp; omega)) (fun _ _ _ _ _ hs _ _ => hs)
    ⟨⟨⟨later_cell _ (later_cell _ (later_cell _ c0.1)), later_frozen _ (later_cell _ (later_cell _ c0.1)) (later_frozen _ (later_cell _ c0.1) (later_frozen _ c0.1 c0.2))⟩, later_cell _ (later_cell _ c1.1), later_frozen _ (later_cell _ c1.1) (later_frozen _ c1.1 c1.2)⟩, hB0⟩
    (fun k => { tmps := #[.slice (some ⟨b, off, none⟩) len cap, undef, .int .u32 0, .pointer (some ⟨w.heap.size, 0, none⟩), .pointer (some ⟨w.heap.size + 1, 0, none⟩), chunkV st b off len k, undef, undef, .slice (some ⟨b, off, none⟩) len cap,
      .func (.func 138) #[] #[.pointer (some ⟨w.heap.size + 1 + 1, 0, none⟩), .pointer (some ⟨w.heap.size + 1 + 1 + 1, 0, none⟩)], chunkV st b off len k, undef, undef, undef, undef, undef, undef, undef, undef, undef, undef, undef, undef, undef, undef, undef, undef, undef, undef, undef, undef, undef], defers := [] }) ?assign ?body ?done ?stop
  case assign =>
    intro l x W K hK
    gi_wp2
    exact hK
  case body =>
    rintro l0 pre x W hI _
    have hlies := h.lies
    have hR := SumR.start (w.heap.size + 1 + 1) (w.heap.size + 1 + 1 + 1) (chunkB st l x) hI
    have hcl : (chunkB st l x).length = chunkLen st len x := by rw [chunkB_length, Hl.out]
    have hin := chunk_in_len st len x
    have hnth : ∀ j, j < st → nth (chunkB st l x) j = nth l (chunkAt st x + j) := fun j hj => chunkB_nth st l x j hj
    have hms : chunkLen st len x ≤ st := by unfold chunkLen; omega
    simp only [chunkV]
    generalize chunkLen st len x = m at *
    generalize chunkAt st x = d at *
    have Hcl := Lib.hid hcl
    have Hnth := Lib.hid hnth
    have Hlies := Lib.hid hlies
    have Hin := Lib.hid hin
    clear hcl hnth hlies hin hI c0 c1 c2 c3
    have hcm : (chunkB st l x).length ≤ 65536 := by rw [Hcl.out]; omega
    gi_wp2
    gi_loopw [13] (fun i wr => ∃ j : Nat, j ≤ m ∧ i = .int .i64 j ∧ SumR w W wr w.heap.size (w.heap.size + 1 + 1) (w.heap.size + 1 + 1 + 1) (chunkBs st l pre) (chunkB st l x) j) (fun i _ => m - (intOf i).toNat)
    case atStart => exact ⟨0, Nat.zero_le _, rfl, hR⟩
    case round =>
      obtain ⟨j, hj, rfl, hrel⟩ := hrel
      have hrel2 := hrel
      obtain ⟨cl, fl, ch, fh, _⟩ := hrel2
      have b1 := stepLo_le (chunkBs st l pre) (chunkB st l x) j hcm
      have b2 := stepHi_le (chunkBs st l pre) (chunkB st l x) j hcm (by rw [Hcl.out]; exact hj)
      by_cases hlt : j < m
      · have hcx : wr.cell? ⟨b, off + d + j, none⟩ = some (.int .u8 (nth (chunkB st l x) j)) := by
          have := Hin.out (by omega)
          obtain ⟨b', o', e, hb, hc⟩ := Hlies.out (by omega)
          injection e with e
          injection e with e1 e2
          subst e1
          subst e2
          rw [Hnth.out j (by omega), Nat.add_assoc]
          exact (hrel.2.2.2.2.2.2.cell (p := ⟨b, off + (d + j), none⟩) hb).trans (hc (d + j) (by omega))
        have n1 := nth_lo (chunkB st l x) j
        have n2 := nth_hi (chunkB st l x) j
        have HS := Lib.hid (hrel.step (by rw [Hcl.out]; exact hlt) (Nat.le_refl _) (by omega) (by omega) (by omega) (by omega))
        clear hrel
        gi_wp2
        go_roundw
        case rel => exact ⟨j + 1, by omega, by go_num, HS.out⟩
        case measure => simp [intOf]; omega
      · have HS := Lib.hid (SumR.last (by rw [Hcl.out, show m = j by omega]; exact hrel) (Nat.le_refl _) (by omega) (by omega) (by omega) (by omega))
        rw [Hcl.out, show m = j by omega] at HS
        clear hrel
        gi_wp2
        exact HS.out
  case done =>
    rintro D ys W hD rfl hI hK
    rw [show List.range (chunks st len) = List.range (chunks st l.length) by rw [Hl.out]] at hI
    unfold SumI at hI
    rw [chunkBs_all st l hst1] at hI
    obtain ⟨⟨⟨cl, fl⟩, ch, fh⟩, hB⟩ := hI
    have l1 : (lowN l % 65521 : Nat) < 65521 := Nat.mod_lt _ (by decide)
    have l2 : (highN l % 65521 : Nat) < 65521 := Nat.mod_lt _ (by decide)
    have Hck : Hid (((highN l % 65521 : Nat) : Int) * 65536 + ((lowN l % 65521 : Nat) : Int) = (adl l : Nat)) := by unfold Hid adl; omega
    generalize lowN l % 65521 = lo at *
    generalize highN l % 65521 = hi at *
    clear c0 c1 c2 c3
    gi_wp2_with (gi_at_call 114; refine (hck lo hi W (by omega) (by omega) (by omega) (by omega)).mono ?_; rintro e w' ⟨rfl, rfl⟩)
    refine ⟨by simp, .inl ⟨_, _, rfl, run_takeDeferred hK, ?_⟩⟩
    exact ⟨_, results_tmp rfl _ _ _, by rw [← Hck.out]; rfl, hB.trans (belowK_b (w := w) (Nat.le_refl _) W D _ _ (by simp at hD; omega) hK rfl rfl)⟩
  case stop =>
    rintro D c pre W _ _ h _
    exact h.elim

set_option maxRecDepth 100000 in
set_option maxHeartbeats 2000000 in
/-- .. of no bytes, nil or not. -/
theorem sum_nil_in (F : Fence) (n : Nat) (hf1 : F.fn 71) (hf2 : F.fn 113) (hf3 : F.fn 138) (hck : ∀ (lo hi : Int) (W : World), 0 ≤ lo → lo < 65521 → 0 ≤ hi → hi < 65521 → CallsIn F (n - 1) Tryz.prog 114 #[.int .u64 lo, .int .u64 hi] W fun e w' => e = .returned (.int .u32 (hi * 65536 + lo)) ∧ W = w')
    (hf4 : F.fn 114) (hro : F.round = none) (hn : 3 ≤ n) (w : World) (A : Option Addr) (cap : Nat) :
    CallsIn F n Tryz.prog 71 #[.slice A 0 cap] w fun e W' => e = .returned (.int .u32 (adl [] : Nat)) ∧ Below w.heap.size w W' := by
  have h1 : 1 ≤ n := by omega
  refine callsIn_of_wp_marks Tryz.func71 rfl hf1 ?_ hro
  simp only [Tryz.ntmps71, List.size_toArray, List.length_cons, List.length_nil, Nat.reduceAdd, Nat.reduceSub, Array.replicate_succ, Array.replicate_zero, List.push_toArray, List.append_toArray, List.nil_append, List.cons_append]
  gi_wp2_with (gi_at_call 113; refine (chunk_in F (n - 1) hf2 hro _ _ _ _).mono ?_; rintro e w' ⟨rfl, rfl⟩)
  have hB0 : Below w.heap.size w ((((w.alloc (.cells #[.int .u64 1] 78)).alloc (.cells #[.int .u64 0] 78)).alloc (.cells #[.slice A 0 cap] 22)).alloc (.cells #[.int .i64 65536] 3)) :=
    ((((Below.refl _ w).alloc (Nat.le_refl _) _).alloc (by simp) _).alloc (by simp; omega) _).alloc (by simp; omega) _
  have c0 := box_cell w (.int .u64 1) 78
  have c1 := box_cell (w.alloc (.cells #[.int .u64 1] 78)) (.int .u64 0) 78
  have c2 := box_cell ((w.alloc (.cells #[.int .u64 1] 78)).alloc (.cells #[.int .u64 0] 78)) (.slice A 0 cap) 22
  simp only [World.size_alloc] at c1 c2
  refine wpIn_rangeFunc_ownF hro h1 (gf := 138) (lb := #[.pointer (some ⟨w.heap.size + 1 + 1, 0, none⟩), .pointer (some ⟨w.heap.size + 1 + 1 + 1, 0, none⟩)]) rfl hf3 (enters_of Tryz.func138 (by kernel_rfl) rfl)
    (chunk_stops_nil F (n - 1) hf3 hro 1 (w.heap.size + 1 + 1) (w.heap.size + 1 + 1 + 1) 0 0 A cap _ (Nat.le_refl _) (by simp) (later_cell _ c2.1))
    KB2.trans (fun W l o o' hl _ _ _ => KB2.putObj W l o' (by simp at hl; omega) (by simp at hl; omega)) (Below.refl _ _) (fun _ => rfl)
    (fun ks W => ks = [] → SumI w w.heap.size 1 [] [] W) (fun _ _ _ => False) (fun s W W' row hs hg hr e => SumI.own w w.heap.size 1 [] _ (by simp; omega) [] W W' row (hs e) hg hr) (fun _ _ _ _ _ hs _ _ => hs)
    (fun _ => ⟨⟨⟨later_cell _ (later_cell _ (later_cell _ c0.1)), later_frozen _ (later_cell _ (later_cell _ c0.1)) (later_frozen _ (later_cell _ c0.1) (later_frozen _ c0.1 c0.2))⟩, later_cell _ (later_cell _ c1.1), later_frozen _ (later_cell _ c1.1) (later_frozen _ c1.1 c1.2)⟩, hB0⟩)
    (fun k => { tmps := #[.slice A 0 cap, undef, .int .u32 0, .pointer (some ⟨w.heap.size, 0, none⟩), .pointer (some ⟨w.heap.size + 1, 0, none⟩), chunkV 1 0 0 0 k, undef, undef, .slice A 0 cap,
      .func (.func 138) #[] #[.pointer (some ⟨w.heap.size + 1 + 1, 0, none⟩), .pointer (some ⟨w.heap.size + 1 + 1 + 1, 0, none⟩)], chunkV 1 0 0 0 k, undef, undef, undef, undef, undef, undef, undef, undef, undef, undef, undef, undef, undef, undef, undef, undef, undef, undef, undef, undef, undef], defers := [] }) ?assign ?body ?done ?stop
  case assign =>
    intro l x W K hK
    gi_wp2
    exact hK
  case body =>
    intro l0 pre x W _ hlt
    exact absurd hlt (by simp [chunks])
  case done =>
    intro D ys W hD hys hI hK
    have hI := hI (by rw [hys]; simp [chunks])
    unfold SumI at hI
    obtain ⟨⟨⟨cl, fl⟩, ch, fh⟩, hB⟩ := hI
    have Hck : Hid (((highN [] % 65521 : Nat) : Int) * 65536 + ((lowN [] % 65521 : Nat) : Int) = (adl [] : Nat)) := by unfold Hid adl; omega
    have l1 : (lowN [] % 65521 : Nat) < 65521 := Nat.mod_lt _ (by decide)
    have l2 : (highN [] % 65521 : Nat) < 65521 := Nat.mod_lt _ (by decide)
    have e0 : chunkBs 1 [] [] = [] := rfl
    rw [e0] at cl ch
    generalize lowN [] % 65521 = lo at *
    generalize highN [] % 65521 = hi at *
    clear c0 c1 c2 e0
    gi_wp2_with (gi_at_call 114; refine (hck lo hi W (by omega) (by omega) (by omega) (by omega)).mono ?_; rintro e w' ⟨rfl, rfl⟩)
    refine ⟨by simp, .inl ⟨_, _, rfl, run_takeDeferred hK, ?_⟩⟩
    exact ⟨_, results_tmp rfl _ _ _, by rw [← Hck.out]; rfl, hB.trans (belowK_b (w := w) (Nat.le_refl _) W D _ _ (by simp at hD; omega) hK rfl rfl)⟩
  case stop =>
    rintro D c pre W _ _ h _
    exact h.elim

/-- wire.Sum, of whatever bytes: the checksum; nothing that was there has changed. -/
theorem sum_any (w : World) (A : Option Addr) (len cap : Nat) (l : List UInt8) (h : Byt w w.heap.size A len cap l) (hlen : len ≤ 1099511627776) :
    Calls Tryz.prog 71 #[.slice A len cap] w fun e W' => e = .returned (.int .u32 (adl l : Nat)) ∧ Below w.heap.size w W' := by
  refine (callsIn_wide (n := 3)).1 ?_
  rcases Nat.eq_zero_or_pos len with h0 | h0
  · subst h0
    obtain rfl : l = [] := List.eq_nil_of_length_eq_zero h.len
    exact sum_nil_in Fence.wide 3 trivial trivial trivial (fun lo hi W a b c d => callsIn_wide.2 (checksum_any lo hi W a b c d)) trivial rfl (Nat.le_refl _) w A cap
  · obtain ⟨b, o, rfl, _⟩ := h.lies h0
    exact sum_in Fence.wide 3 trivial trivial trivial (fun lo hi W a b c d => callsIn_wide.2 (checksum_any lo hi W a b c d)) trivial rfl (Nat.le_refl _) w b o len cap l h hlen
/-- The same, the bytes below whatever block. -/
theorem sum_at (w : World) (B : Nat) (A : Option Addr) (len cap : Nat) (l : List UInt8) (h : Byt w B A len cap l) (hB : B ≤ w.heap.size) (hlen : len ≤ 1099511627776) :
    Calls Tryz.prog 71 #[.slice A len cap] w fun e W' => e = .returned (.int .u32 (adl l : Nat)) ∧ Below w.heap.size w W' := sum_any w A len cap l (h.more hB) hlen
end Go.Proofs.YtiikjdjpodmpcaaGreat

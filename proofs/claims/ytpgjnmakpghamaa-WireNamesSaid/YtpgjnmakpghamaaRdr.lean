/- Walks of package wire: readers. -/
import Derived.Test.YtpgjnmakpghamaaRead
namespace Go.Proofs.Ytpgjnmakpghamaa
open Go.RowKit
set_option linter.unusedVariables false

/-! ### A block that is known whole -/
def BlkIs (w : World) (g : Nat) (t : TypeId) (cs : Array Value) : Prop := w.heap[g]? = some (.cells cs t (0, 0))
section
variable {w w' : World} {g : Nat} {t : TypeId} {cs : Array Value}
theorem BlkIs.lt (h : BlkIs w g t cs) : g < w.heap.size := (Array.getElem?_eq_some_iff.1 h).1
theorem BlkIs.cell (h : BlkIs w g t cs) (i : Nat) : w.cell? ⟨g, i, none⟩ = cs[i]? := cell_of_row w g i cs t (0, 0) h
theorem BlkIs.frozen (h : BlkIs w g t cs) (i : Nat) : w.frozen? ⟨g, i, none⟩ = false := frozen_of_row w g i cs t h
theorem BlkIs.new (w : World) (t : TypeId) (cs : Array Value) : BlkIs (w.alloc (.cells cs t)) w.heap.size t cs := heap_alloc_new w _
theorem BlkIs.set (h : BlkIs w g t cs) (i : Nat) (u : Value) : BlkIs (w.setCell ⟨g, i, none⟩ u) g t (cs.setIfInBounds i u) := heap_setCell_same w g i cs t u h
theorem BlkIs.grown (h : BlkIs w g t cs) {row : Option Nat} (hg : w.grownBy w' row) (hne : some g ≠ row) : BlkIs w' g t cs := (hg.block g h.lt hne).trans h
theorem BlkIs.below (h : BlkIs w g t cs) {B : Nat} (hb : Below B w w') (hlt : g < B) : BlkIs w' g t cs := (hb.block g hlt).trans h
theorem BlkIs.own_ne (h : BlkIs w g t cs) (ht : t ≠ 5) {B n c : Nat} {A : Option Addr} {l : List UInt8} (ho : Own w B A n c l) : (Value.slice A n c).ownBlock ≠ some g := by
  rcases ho.2 with ⟨hv, _⟩ | ⟨g', cap, cur, hv, _, hh, _⟩
  · rw [hv]; simp [Value.ownBlock]
  · rw [hv]
    intro he
    have : g' = g := by simpa [Value.ownBlock] using he
    subst this
    unfold BlkIs at h
    rw [h] at hh
    injection hh with hh
    injection hh with _ h2
    exact ht h2
end
theorem Own.grown {w w' : World} {B n c : Nat} {A : Option Addr} {l : List UInt8} (h : Own w B A n c l) {row : Option Nat} (hg : w.grownBy w' row) (hne : (Value.slice A n c).ownBlock = none ∨ (Value.slice A n c).ownBlock ≠ row) : Own w' B A n c l := World.ownsRow.kept h hg hne

/-! ### A reader in memory -/
def rcells (A : Option Addr) (n c at_ : Nat) (e : Int) : Array Value := #[.slice A n c, .int .i64 at_, .bool true, .int .i64 e]
/-- Block g is a reader of the bytes l, which are its own; at_ of them are read; its first error is e. -/
structure Rdr (w : World) (B g : Nat) (A : Option Addr) (n c : Nat) (l : List UInt8) (at_ : Nat) (e : Int) : Prop where
  blk : BlkIs w g 61 (rcells A n c at_ e)
  own : Own w B A n c l
  hat : at_ ≤ n
  hB : B ≤ g
section
variable {w w' : World} {B g n c at_ at2 : Nat} {A : Option Addr} {l : List UInt8} {e e2 : Int}
theorem Rdr.ne (h : Rdr w B g A n c l at_ e) : (Value.slice A n c).ownBlock ≠ some g := h.blk.own_ne (by decide) h.own
theorem Rdr.turn (h : Rdr w B g A n c l at_ e) (hg : w.grownBy w' (some g)) (hb : BlkIs w' g 61 (rcells A n c at2 e2)) (ha : at2 ≤ n) : Rdr w' B g A n c l at2 e2 :=
  ⟨hb, h.own.grown hg (.inr h.ne), ha, h.hB⟩
theorem Rdr.grown (h : Rdr w B g A n c l at_ e) {row : Option Nat} (hg : w.grownBy w' row) (h1 : some g ≠ row) (h2 : (Value.slice A n c).ownBlock = none ∨ (Value.slice A n c).ownBlock ≠ row) : Rdr w' B g A n c l at_ e :=
  ⟨h.blk.grown hg h1, h.own.grown hg h2, h.hat, h.hB⟩
theorem Rdr.below (h : Rdr w B g A n c l at_ e) (hb : Below w.heap.size w w') : Rdr w' B g A n c l at_ e := ⟨h.blk.below hb h.blk.lt, h.own.below hb, h.hat, h.hB⟩
theorem Rdr.c0 (h : Rdr w B g A n c l at_ e) : w.cell? ⟨g, 0, none⟩ = some (.slice A n c) := h.blk.cell 0
theorem Rdr.c1 (h : Rdr w B g A n c l at_ e) : w.cell? ⟨g, 1, none⟩ = some (.int .i64 at_) := h.blk.cell 1
theorem Rdr.c2 (h : Rdr w B g A n c l at_ e) : w.cell? ⟨g, 2, none⟩ = some (.bool true) := h.blk.cell 2
theorem Rdr.c3 (h : Rdr w B g A n c l at_ e) : w.cell? ⟨g, 3, none⟩ = some (.int .i64 e) := h.blk.cell 3
end

theorem err_any (w : World) (g : Nat) (e : Int) (h2 : w.cell? ⟨g, 2, none⟩ = some (.bool true)) (h3 : w.cell? ⟨g, 3, none⟩ = some (.int .i64 e)) :
    Calls Try.prog 14 #[.pointer (some ⟨g, 0, none⟩)] w fun e' w' => e' = .returned (.int .i64 e) ∧ w = w' := by
  go_enter Try.func14, Try.ntmps14
  go_wp2
  go_ret
  exact ⟨rfl, rfl⟩

theorem pos_left (w : World) (g n c at_ : Nat) (A : Option Addr) (h0 : w.cell? ⟨g, 0, none⟩ = some (.slice A n c)) (h1 : w.cell? ⟨g, 1, none⟩ = some (.int .i64 at_)) (hat : at_ ≤ n) (hn : n ≤ 9223372036854775807) :
    Calls Try.prog 51 #[.pointer (some ⟨g, 0, none⟩)] w fun e' w' => e' = .returned (.int .i64 ((n - at_ : Nat) : Int)) ∧ ∃ q, w' = w.drewN q := by
  have e1 : IntKind.i64.wrap ((n : Int) - at_) = ((n - at_ : Nat) : Int) := by rw [IntWalk.i64_in _ (by omega)]; omega
  go_enter Try.func51, Try.ntmps51
  go_wp2_with fail
  go_quiet (fail)
  go_wp2
  go_ret
  exact ⟨rfl, nq, rfl⟩

theorem grown_of_below {w w' : World} (h : Below w.heap.size w w') (row : Option Nat) : w.grownBy w' row := ⟨h.os, h.tape, h.output, h.size, fun k hk _ => h.block k hk⟩
theorem Rdr.of_below {w w' : World} {B g n c at_ : Nat} {A : Option Addr} {l : List UInt8} {e : Int} (h : Rdr w B g A n c l at_ e) (hb : Below w.heap.size w w') : Rdr w' B g A n c l at_ e ∧ w.grownBy w' (some g) := ⟨h.below hb, grown_of_below hb _⟩

/-- What position.piece and position.count leave: the reader has moved on by k bytes. -/
def PosPost (w : World) (B g : Nat) (A : Option Addr) (n c : Nat) (l : List UInt8) (at_ k : Nat) (er : Int) (v : Value) (e : Ending) (w' : World) : Prop :=
  e = .returned v ∧ Rdr w' B g A n c l (at_ + k) er ∧ w.grownBy w' (some g)

/-- A copy of a position in a new block. -/
theorem next_cells (w : World) (A : Option Addr) (n c at_ : Nat) (t : TypeId) :
    (w.alloc (.cells #[.slice A n c, .int .i64 at_] t)).cell? ⟨w.heap.size, 0, none⟩ = some (.slice A n c) ∧ (w.alloc (.cells #[.slice A n c, .int .i64 at_] t)).cell? ⟨w.heap.size, 1, none⟩ = some (.int .i64 at_) ∧
      (w.alloc (.cells #[.slice A n c, .int .i64 at_] t)).frozen? ⟨w.heap.size, 1, none⟩ = false := by
  refine ⟨by simp, by simp, by simp⟩

set_option maxRecDepth 100000 in
set_option maxHeartbeats 1000000 in
theorem pos_piece_bad (w : World) (B g n c at_ : Nat) (A : Option Addr) (l : List UInt8) (er : Int) (h : Rdr w B g A n c l at_ er) (hbad : (num (l.drop at_)).2.2 ≠ 0) :
    Calls Try.prog 49 #[.pointer (some ⟨g, 0, none⟩)] w (PosPost w B g A n c l at_ 0 er (.tuple #[.string ⟨#[]⟩, .int .i64 ((num (l.drop at_)).2.2 : Nat)])) := by
  have h0 := h.c0
  have h1 := h.c1
  have f0 := h.blk.frozen 0
  have f1 := h.blk.frozen 1
  have hlt := h.blk.lt
  have hby := Lib.hid h.own.byt
  have hat := h.hat
  have he := num_err _ hbad
  have H := Lib.hid h
  obtain ⟨n0, n1, nf⟩ := next_cells w A n c at_ 59
  have hn := (pos_number_any (w.alloc (.cells #[.slice A n c, .int .i64 at_] 59)) w.heap.size w.heap.size n c at_ A l (hby.out.alloc (Nat.le_refl _) _) n0 n1 nf hat)
  generalize num (l.drop at_) = r at *
  have hb4 : ((r.2.2 : Nat) : Int) = 4 ∨ ((r.2.2 : Nat) : Int) = 5 := by omega
  have hb5 : (((r.2.2 : Nat) : Int) == 0) = false := by simp; omega
  have hb6 : (((r.2.2 : Nat) : Int) != 0) = true := by simp; omega
  have Hn := Lib.hid hn
  have Hx : Hid (r.1 = 0) := he.1
  have Hbad := Lib.hid hbad
  clear h hn he hb4 hbad n0 n1 nf
  go_enter Try.func49, Try.ntmps49
  go_wp2_with fail
  refine Hn.out.mono ?_
  rintro e w1 ⟨rfl, q, rfl⟩
  rw [if_neg Hbad.out, Hx.out]
  go_wp2
  go_ret2
  exact ⟨rfl, H.out.of_below (below_drewN ((Below.refl _ _).alloc (Nat.le_refl _) _) q)⟩

/-- What is known behind a number that was read by a copy of the position. -/
theorem next_after (w : World) (A : Option Addr) (n c at_ : Nat) (t : TypeId) (q : Nat) (u : Value) :
    ∃ W2, W2 = ((w.alloc (.cells #[.slice A n c, .int .i64 at_] t)).drewN q).setCell ⟨w.heap.size, 1, none⟩ u ∧ Below w.heap.size w W2 ∧ BlkIs W2 w.heap.size t #[.slice A n c, u] ∧ W2.heap.size = w.heap.size + 1 :=
  ⟨_, rfl, (below_drewN ((Below.refl _ _).alloc (Nat.le_refl _) _) q).setCell (p := ⟨w.heap.size, 1, none⟩) (Nat.le_refl _) _,
    (BlkIs.new w t #[.slice A n c, .int .i64 at_]).set 1 u, by simp⟩

set_option maxRecDepth 100000 in
set_option maxHeartbeats 1000000 in
theorem pos_piece_long (w : World) (B g n c at_ : Nat) (A : Option Addr) (l : List UInt8) (er : Int) (h : Rdr w B g A n c l at_ er) (hok : (num (l.drop at_)).2.2 = 0) (hlong : 1048576 < (num (l.drop at_)).1) :
    Calls Try.prog 49 #[.pointer (some ⟨g, 0, none⟩)] w (PosPost w B g A n c l at_ 0 er (.tuple #[.string ⟨#[]⟩, .int .i64 3])) := by
  have h0 := h.c0
  have h1 := h.c1
  have hlt := h.blk.lt
  have hby := Lib.hid h.own.byt
  have hat := h.hat
  have H := Lib.hid h
  have hxlt := num_lt (l.drop at_)
  obtain ⟨n0, n1, nf⟩ := next_cells w A n c at_ 59
  have hn := (pos_number_any (w.alloc (.cells #[.slice A n c, .int .i64 at_] 59)) w.heap.size w.heap.size n c at_ A l (hby.out.alloc (Nat.le_refl _) _) n0 n1 nf hat)
  generalize num (l.drop at_) = r at *
  obtain ⟨x, k, e⟩ := r
  simp only at hok hlong hxlt
  subst hok
  have Hn := Lib.hid hn
  clear h hn n0 n1 nf
  go_enter Try.func49, Try.ntmps49
  go_wp2_with fail
  refine Hn.out.mono ?_
  rintro e w1 ⟨rfl, q, rfl⟩
  rw [if_pos rfl]
  obtain ⟨W2, hW2, hb2, hk2, hz2⟩ := next_after w A n c at_ 59 q (.int .i64 (at_ + k : Nat))
  rw [← hW2]
  clear hW2
  go_wp2
  go_ret2
  exact ⟨rfl, H.out.of_below hb2⟩

set_option maxRecDepth 100000 in
set_option maxHeartbeats 1000000 in
theorem pos_piece_more (w : World) (B g n c at_ : Nat) (A : Option Addr) (l : List UInt8) (er : Int) (h : Rdr w B g A n c l at_ er) (hok : (num (l.drop at_)).2.2 = 0) (hlong : (num (l.drop at_)).1 ≤ 1048576) (hmore : (l.drop at_).length - (num (l.drop at_)).2.1 < (num (l.drop at_)).1) :
    Calls Try.prog 49 #[.pointer (some ⟨g, 0, none⟩)] w (PosPost w B g A n c l at_ 0 er (.tuple #[.string ⟨#[]⟩, .int .i64 5])) := by
  have h0 := h.c0
  have h1 := h.c1
  have hlt := h.blk.lt
  have hby := Lib.hid h.own.byt
  have hat := h.hat
  have hlen := h.own.len
  have hcap := h.own.byt.cap
  have hle := h.own.byt.le
  unfold maxLen at hcap
  have H := Lib.hid h
  have hkl := num_le (l.drop at_) hok
  rw [List.length_drop, hlen] at hkl hmore
  obtain ⟨n0, n1, nf⟩ := next_cells w A n c at_ 59
  have hn := (pos_number_any (w.alloc (.cells #[.slice A n c, .int .i64 at_] 59)) w.heap.size w.heap.size n c at_ A l (hby.out.alloc (Nat.le_refl _) _) n0 n1 nf hat)
  generalize num (l.drop at_) = r at *
  obtain ⟨x, k, e⟩ := r
  simp only at hok hlong hkl hmore
  subst hok
  have Hn := Lib.hid hn
  clear h hn n0 n1 nf hlen
  have ex : IntKind.u64.wrap ((n - (at_ + k) : Nat) : Int) = ((n - (at_ + k) : Nat) : Int) := IntWalk.u64_in _ (by omega)
  have hx2 : ((n - (at_ + k) : Nat) : Int) < x := by omega
  go_enter Try.func49, Try.ntmps49
  go_wp2_with fail
  refine Hn.out.mono ?_
  rintro e w1 ⟨rfl, q, rfl⟩
  rw [if_pos rfl]
  obtain ⟨W2, hW2, hb2, hk2, hz2⟩ := next_after w A n c at_ 59 q (.int .i64 (at_ + k : Nat))
  rw [← hW2]
  have c0 := hk2.cell 0
  have c1 := hk2.cell 1
  clear hW2 hk2
  simp only [List.getElem?_toArray, List.getElem?_cons_zero, List.getElem?_cons_succ] at c0 c1
  go_wp2_with (go_at_call 51; refine (pos_left W2 w.heap.size n c (at_ + k) A c0 c1 (by omega) (by omega)).mono ?_; rintro e w' ⟨rfl, q2, rfl⟩)
  go_ret2
  exact ⟨rfl, H.out.of_below (below_drewN hb2 q2)⟩

/-- Behind a copy back: the reader stands at p + x. -/
theorem copied (w W3 : World) (B g n c at_ p2 : Nat) (A : Option Addr) (l : List UInt8) (er : Int) (h : Rdr w B g A n c l at_ er) (hb : Below w.heap.size w W3) (hp : p2 ≤ n) (u : Value) :
    ∃ W4, W4 = ((W3.setCell ⟨w.heap.size, 1, none⟩ u).setCell ⟨g, 0, none⟩ (.slice A n c)).setCell ⟨g, 1, none⟩ (.int .i64 (p2 : Nat)) ∧ Rdr W4 B g A n c l p2 er ∧ w.grownBy W4 (some g) := by
  have hlt := h.blk.lt
  have hb1 := hb.setCell (p := ⟨w.heap.size, 1, none⟩) (Nat.le_refl _) u
  have hg := grown_of_below hb1 (some g)
  have k1 := h.blk.below hb1 hlt
  have k2 := (k1.set 0 (.slice A n c)).set 1 (.int .i64 (p2 : Nat))
  have g2 : w.grownBy (((W3.setCell ⟨w.heap.size, 1, none⟩ u).setCell ⟨g, 0, none⟩ (.slice A n c)).setCell ⟨g, 1, none⟩ (.int .i64 (p2 : Nat))) (some g) := by
    refine ⟨hg.os, hg.tape, hg.output, by simpa using hg.size, fun i hi hne => ?_⟩
    have hne' : i ≠ g := fun e => hne (by rw [e])
    rw [Below.heap_setCell _ _ _ _ hne', Below.heap_setCell _ _ _ _ hne']
    exact hg.block i hi hne
  exact ⟨_, rfl, h.turn g2 k2 hp, g2⟩
theorem Rdr.drewN {w : World} {B g n c at_ : Nat} {A : Option Addr} {l : List UInt8} {e : Int} (h : Rdr w B g A n c l at_ e) (q : Nat) : Rdr (w.drewN q) B g A n c l at_ e := ⟨h.blk, h.own, h.hat, h.hB⟩
theorem grown_drewN {w w' : World} {row : Option Nat} (h : w.grownBy w' row) (q : Nat) : w.grownBy (w'.drewN q) row := ⟨h.os, h.tape, h.output, h.size, h.block⟩

set_option maxRecDepth 100000 in
set_option maxHeartbeats 2000000 in
theorem pos_piece_ok (w : World) (B g n c at_ : Nat) (A : Option Addr) (l : List UInt8) (er : Int) (h : Rdr w B g A n c l at_ er) (hok : (num (l.drop at_)).2.2 = 0) (hlong : (num (l.drop at_)).1 ≤ 1048576) (hmore : (num (l.drop at_)).1 ≤ (l.drop at_).length - (num (l.drop at_)).2.1) :
    Calls Try.prog 49 #[.pointer (some ⟨g, 0, none⟩)] w (PosPost w B g A n c l at_ ((num (l.drop at_)).2.1 + (num (l.drop at_)).1) er (.tuple #[.string ⟨(((l.drop at_).drop (num (l.drop at_)).2.1).take (num (l.drop at_)).1).toArray⟩, .int .i64 0])) := by
  have h0 := h.c0
  have h1 := h.c1
  have hlt := h.blk.lt
  have hby := Lib.hid h.own.byt
  have hat := h.hat
  have hlen := h.own.len
  have hcap := h.own.byt.cap
  have hle := h.own.byt.le
  unfold maxLen at hcap
  have H := Lib.hid h
  have hkl := num_le (l.drop at_) hok
  rw [List.length_drop, hlen] at hkl hmore
  obtain ⟨n0, n1, nf⟩ := next_cells w A n c at_ 59
  have hn := (pos_number_any (w.alloc (.cells #[.slice A n c, .int .i64 at_] 59)) w.heap.size w.heap.size n c at_ A l (hby.out.alloc (Nat.le_refl _) _) n0 n1 nf hat)
  generalize num (l.drop at_) = r at *
  obtain ⟨x, k, e⟩ := r
  simp only at hok hlong hkl hmore
  subst hok
  have Hn := Lib.hid hn
  obtain ⟨p, hp⟩ : ∃ p, at_ + k = p := ⟨_, rfl⟩
  have hq1 : p ≤ n := by omega
  have hq2 : p + x ≤ n := by omega
  have hq0 : 0 < p := by omega
  have hq3 : x ≤ n - p := by omega
  have Hp := Lib.hid hp
  have hlst : ((l.drop at_).drop k).take x = (l.take (p + x)).drop p := by
    rw [List.drop_drop, hp, List.drop_take]
    congr 1
    omega
  have Hlst := Lib.hid hlst
  obtain ⟨b, o, hA, hblt, _⟩ := h.own.byt.lies (by omega)
  subst hA
  clear h hn n0 n1 nf hlen hp hmore hkl hat hlst
  have ex : IntKind.u64.wrap ((n - p : Nat) : Int) = ((n - p : Nat) : Int) := IntWalk.u64_in _ (by omega)
  have hx2 : (x : Int) ≤ ((n - p : Nat) : Int) := by omega
  have ex2 : IntKind.i64.wrap (x : Int) = x := IntWalk.i64_in _ (by omega)
  have ex3 : IntKind.i64.wrap ((p : Int) + x) = (p : Int) + x := IntWalk.i64_in _ (by omega)
  go_enter Try.func49, Try.ntmps49
  go_wp2_with fail
  refine Hn.out.mono ?_
  rintro e w1 ⟨rfl, q, rfl⟩
  rw [if_pos rfl]
  obtain ⟨W2, hW2, hb2, hk2, hz2⟩ := next_after w (some ⟨b, o, none⟩) n c at_ 59 q (.int .i64 (at_ + k : Nat))
  rw [← hW2]
  rw [Hp.out] at hk2
  have c0 := hk2.cell 0
  have c1 := hk2.cell 1
  have hf2 := hk2.frozen 1
  clear hW2
  simp only [List.getElem?_toArray, List.getElem?_cons_zero, List.getElem?_cons_succ] at c0 c1
  go_wp2_with fail
  refine (pos_left W2 w.heap.size n c p _ c0 c1 (by omega) (by omega)).mono ?_
  rintro e w' ⟨rfl, q2, rfl⟩
  have hb3 := below_drewN hb2 q2
  have k3 : BlkIs (W2.drewN q2) w.heap.size 59 #[.slice (some ⟨b, o, none⟩) n c, .int .i64 p] := hk2
  generalize W2.drewN q2 = W3 at *
  clear hb2 hk2 hz2 c0 c1 hf2 h0 h1
  have c0 := k3.cell 0
  have c1 := k3.cell 1
  have f1 := k3.frozen 1
  have kg := H.out.blk.below hb3 hlt
  have g0 := kg.cell 0
  have g1 := kg.cell 1
  have gf0 := kg.frozen 0
  have gf1 := kg.frozen 1
  have ne1 : ¬ g = w.heap.size := by omega
  have ne2 : ¬ w.heap.size = g := by omega
  simp only [rcells, List.getElem?_toArray, List.getElem?_cons_zero, List.getElem?_cons_succ] at c0 c1 g0 g1
  clear k3 kg
  go_wp2_with fail
  obtain ⟨W4, hW4, hr4, hg4⟩ := copied w W3 B g n c at_ (p + x) (some ⟨b, o, none⟩) l er H.out hb3 hq2 (.int .i64 ((p : Int) + x))
  push_cast at hW4
  rw [← hW4]
  have r0 := hr4.c0
  have r1 := hr4.c1
  push_cast at r1
  have hcut := hr4.own.byt.cut (lo := p) (hi := p + x) (by omega) hq2
  rw [show p + x - p = x by omega] at hcut
  clear hW4 c0 c1 f1 g0 g1 gf0 gf1 ne1 ne2 hb3
  have Hr4 := Lib.hid hr4
  have Hg4 := Lib.hid hg4
  clear hr4 hg4
  have i1 : (p : Int) ≤ p + x := by omega
  have i2 : (p : Int) + x ≤ n := by omega
  have i3 : (p : Int) + x ≤ c := by omega
  rw [← Hlst.out] at hcut
  have hend2 : ∀ q, PosPost w B g (some ⟨b, o, none⟩) n c l at_ (k + x) er (.tuple #[.string ⟨(((l.drop at_).drop k).take x).toArray⟩, .int .i64 0]) (.returned (.tuple #[.string ⟨(((l.drop at_).drop k).take x).toArray⟩, .int .i64 0])) (W4.drewN q) :=
    fun q => ⟨rfl, by rw [← Nat.add_assoc, Hp.out]; exact Hr4.out.drewN q, grown_drewN Hg4.out q⟩
  have Hend := Lib.hid hend2
  clear hend2
  by_cases hcp : c = p
  · rw [if_pos hcp, hcp, Nat.sub_self] at hcut
    have hx0 : x = 0 := by omega
    subst hcp
    have hcv : ∀ q, (convert 24 9 (.slice (some ⟨b, o, none⟩) 0 0)).run Try.prog (W4.drewN q) = .ok (.string ⟨(((l.drop at_).drop k).take x).toArray⟩) (W4.drewN q) := fun q => by
      have := run_string_of_bytes (w := W4.drewN q) (B := W4.heap.size) ⟨hcut.len, hcut.le, hcut.cap, hcut.lies⟩
      rw [hx0] at this ⊢
      exact this
    have Hx0 := Lib.hid hx0
    clear hcut hx0
    go_quiet (fail)
    go_wp2
    go_ret2
    refine And.intro ?_ (Hend.out nq).2
    simp [List.drop_drop]
  · rw [if_neg hcp] at hcut
    simp only [Option.map_some, add_plain] at hcut
    have hcv : ∀ q, (convert 24 9 (.slice (some ⟨b, o + p, none⟩) x (c - p))).run Try.prog (W4.drewN q) = .ok (.string ⟨(((l.drop at_).drop k).take x).toArray⟩) (W4.drewN q) := fun q => run_string_of_bytes (w := W4.drewN q) (B := W4.heap.size) ⟨hcut.len, hcut.le, hcut.cap, hcut.lies⟩
    clear hcut
    go_quiet (fail)
    go_wp2
    go_ret2
    refine And.intro ?_ (Hend.out nq).2
    simp [List.drop_drop]
end Go.Proofs.Ytpgjnmakpghamaa

/- Walks of package wire: position.piece and position.count whole; the methods of a reader. -/
import Derived.Test.YtlmfjalkgapcgaaDoorRdr
namespace Go.Proofs.YtlmfjalkgapcgaaDoor
open Go.RowKit
set_option linter.unusedVariables false

/-! ### position.count -/
theorem copied2 (w W3 : World) (B g n c at_ p2 : Nat) (A : Option Addr) (l : List UInt8) (er : Int) (h : Rdr w B g A n c l at_ er) (hb : Below w.heap.size w W3) (hp : p2 ≤ n) :
    Rdr ((W3.setCell ⟨g, 0, none⟩ (.slice A n c)).setCell ⟨g, 1, none⟩ (.int .i64 (p2 : Nat))) B g A n c l p2 er ∧ w.grownBy ((W3.setCell ⟨g, 0, none⟩ (.slice A n c)).setCell ⟨g, 1, none⟩ (.int .i64 (p2 : Nat))) (some g) := by
  have hlt := h.blk.lt
  have hg := grown_of_below hb (some g)
  have k1 := h.blk.below hb hlt
  have k2 := (k1.set 0 (.slice A n c)).set 1 (.int .i64 (p2 : Nat))
  have g2 : w.grownBy ((W3.setCell ⟨g, 0, none⟩ (.slice A n c)).setCell ⟨g, 1, none⟩ (.int .i64 (p2 : Nat))) (some g) := by
    refine ⟨hg.os, hg.tape, hg.output, by simpa using hg.size, fun i hi hne => ?_⟩
    have hne' : i ≠ g := fun e => hne (by rw [e])
    rw [Below.heap_setCell _ _ _ _ hne', Below.heap_setCell _ _ _ _ hne']
    exact hg.block i hi hne
  exact ⟨h.turn g2 k2 hp, g2⟩

set_option maxRecDepth 100000 in
set_option maxHeartbeats 1000000 in
theorem pos_count_bad (w : World) (B g n c at_ : Nat) (A : Option Addr) (l : List UInt8) (er m : Int) (h : Rdr w B g A n c l at_ er) (hbad : (num (l.drop at_)).2.2 ≠ 0) :
    Calls Tryd.prog 63 #[.pointer (some ⟨g, 0, none⟩), .int .i64 m] w (PosPost w B g A n c l at_ 0 er (.tuple #[.int .i64 0, .int .i64 ((num (l.drop at_)).2.2 : Nat)])) := by
  have h0 := h.c0
  have h1 := h.c1
  have hlt := h.blk.lt
  have hby := Lib.hid h.own.byt
  have hat := h.hat
  have he := num_err _ hbad
  have H := Lib.hid h
  obtain ⟨n0, n1, nf⟩ := next_cells w A n c at_ 92
  have hn := (pos_number_any (w.alloc (.cells #[.slice A n c, .int .i64 at_] 92)) w.heap.size w.heap.size n c at_ A l (hby.out.alloc (Nat.le_refl _) _) n0 n1 nf hat)
  generalize num (l.drop at_) = r at *
  have hb4 : ((r.2.2 : Nat) : Int) = 4 ∨ ((r.2.2 : Nat) : Int) = 5 := by omega
  have hb5 : (((r.2.2 : Nat) : Int) == 0) = false := by simp; omega
  have hb6 : (((r.2.2 : Nat) : Int) != 0) = true := by simp; omega
  have Hn := Lib.hid hn
  have Hx : Hid (r.1 = 0) := he.1
  have Hbad := Lib.hid hbad
  clear h hn he hb4 hbad n0 n1 nf
  go_enter Tryd.func63, Tryd.ntmps63
  go_wp2_with fail
  refine Hn.out.mono ?_
  rintro e w1 ⟨rfl, q, rfl⟩
  rw [if_neg Hbad.out, Hx.out]
  go_wp2
  go_ret2
  exact ⟨rfl, H.out.of_below (below_drewN ((Below.refl _ _).alloc (Nat.le_refl _) _) q)⟩

set_option maxRecDepth 100000 in
set_option maxHeartbeats 1000000 in
theorem pos_count_long (w : World) (B g n c at_ : Nat) (A : Option Addr) (l : List UInt8) (er m : Int) (h : Rdr w B g A n c l at_ er) (hm : m ≤ 9223372036854775807) (hok : (num (l.drop at_)).2.2 = 0) (hlong : m.toNat < (num (l.drop at_)).1) :
    Calls Tryd.prog 63 #[.pointer (some ⟨g, 0, none⟩), .int .i64 m] w (PosPost w B g A n c l at_ 0 er (.tuple #[.int .i64 0, .int .i64 3])) := by
  have h0 := h.c0
  have h1 := h.c1
  have hlt := h.blk.lt
  have hby := Lib.hid h.own.byt
  have hat := h.hat
  have H := Lib.hid h
  have hxlt := num_lt (l.drop at_)
  obtain ⟨n0, n1, nf⟩ := next_cells w A n c at_ 92
  have hn := (pos_number_any (w.alloc (.cells #[.slice A n c, .int .i64 at_] 92)) w.heap.size w.heap.size n c at_ A l (hby.out.alloc (Nat.le_refl _) _) n0 n1 nf hat)
  generalize num (l.drop at_) = r at *
  obtain ⟨x, k, e⟩ := r
  simp only at hok hlong hxlt
  subst hok
  have Hn := Lib.hid hn
  clear h hn n0 n1 nf
  by_cases hm0 : m ≤ 0
  · have hx0 : (0 : Int) < x := by omega
    have e1 : max m 0 = 0 := by omega
    go_enter Tryd.func63, Tryd.ntmps63
    go_wp2_with fail
    refine Hn.out.mono ?_
    rintro e w1 ⟨rfl, q, rfl⟩
    rw [if_pos rfl]
    obtain ⟨W2, hW2, hb2, hk2, hz2⟩ := next_after w A n c at_ 92 q (.int .i64 (at_ + k : Nat))
    rw [← hW2]
    clear hW2
    go_wp2
    all_goals (go_ret2; exact ⟨rfl, H.out.of_below hb2⟩)
  · have hx0 : m < x := by omega
    have hm1 : 0 ≤ m := by omega
    have e1 : max m 0 = m := by omega
    have e2 : IntKind.u64.wrap m = m := IntWalk.u64_in _ (by omega)
    go_enter Tryd.func63, Tryd.ntmps63
    go_wp2_with fail
    refine Hn.out.mono ?_
    rintro e w1 ⟨rfl, q, rfl⟩
    rw [if_pos rfl]
    obtain ⟨W2, hW2, hb2, hk2, hz2⟩ := next_after w A n c at_ 92 q (.int .i64 (at_ + k : Nat))
    rw [← hW2]
    clear hW2
    go_wp2
    all_goals (go_ret2; exact ⟨rfl, H.out.of_below hb2⟩)

set_option maxRecDepth 100000 in
set_option maxHeartbeats 2000000 in
theorem pos_count_ok (w : World) (B g n c at_ : Nat) (A : Option Addr) (l : List UInt8) (er m : Int) (h : Rdr w B g A n c l at_ er) (hm : m ≤ 9223372036854775807) (hok : (num (l.drop at_)).2.2 = 0) (hlong : (num (l.drop at_)).1 ≤ m.toNat) :
    Calls Tryd.prog 63 #[.pointer (some ⟨g, 0, none⟩), .int .i64 m] w (PosPost w B g A n c l at_ (num (l.drop at_)).2.1 er (.tuple #[.int .i64 ((num (l.drop at_)).1 : Nat), .int .i64 0])) := by
  have h0 := h.c0
  have h1 := h.c1
  have hlt := h.blk.lt
  have hby := Lib.hid h.own.byt
  have hat := h.hat
  have hlen := h.own.len
  have H := Lib.hid h
  have hkl := num_le (l.drop at_) hok
  rw [List.length_drop, hlen] at hkl
  obtain ⟨n0, n1, nf⟩ := next_cells w A n c at_ 92
  have hn := (pos_number_any (w.alloc (.cells #[.slice A n c, .int .i64 at_] 92)) w.heap.size w.heap.size n c at_ A l (hby.out.alloc (Nat.le_refl _) _) n0 n1 nf hat)
  generalize num (l.drop at_) = r at *
  obtain ⟨x, k, e⟩ := r
  simp only at hok hlong hkl
  subst hok
  have Hn := Lib.hid hn
  have hx63 : x ≤ 9223372036854775807 := by omega
  have ex2 : IntKind.i64.wrap (x : Int) = x := IntWalk.i64_in _ (by omega)
  have hpn : at_ + k ≤ n := by omega
  clear h hn n0 n1 nf hlen
  by_cases hm0 : m ≤ 0
  · have hx0 : (x : Int) ≤ 0 := by omega
    have e1 : max m 0 = 0 := by omega
    go_enter Tryd.func63, Tryd.ntmps63
    go_wp2_with fail
    refine Hn.out.mono ?_
    rintro e w1 ⟨rfl, q, rfl⟩
    rw [if_pos rfl]
    obtain ⟨W2, hW2, hb2, hk2, hz2⟩ := next_after w A n c at_ 92 q (.int .i64 (at_ + k : Nat))
    rw [← hW2]
    have c0 := hk2.cell 0
    have c1 := hk2.cell 1
    have kg := H.out.blk.below hb2 hlt
    have g0 := kg.cell 0
    have g1 := kg.cell 1
    have gf0 := kg.frozen 0
    have gf1 := kg.frozen 1
    simp only [rcells, List.getElem?_toArray, List.getElem?_cons_zero, List.getElem?_cons_succ] at c0 c1 g0 g1
    clear hW2 hk2 kg
    have hfin := copied2 w W2 B g n c at_ (at_ + k) A l er H.out hb2 hpn
    push_cast at hfin
    have Hfin := Lib.hid hfin
    clear hfin
    go_wp2
    all_goals (go_ret2; exact ⟨rfl, Hfin.out⟩)
  · have hx0 : (x : Int) ≤ m := by omega
    have hm1 : 0 ≤ m := by omega
    have e1 : max m 0 = m := by omega
    have e2 : IntKind.u64.wrap m = m := IntWalk.u64_in _ (by omega)
    go_enter Tryd.func63, Tryd.ntmps63
    go_wp2_with fail
    refine Hn.out.mono ?_
    rintro e w1 ⟨rfl, q, rfl⟩
    rw [if_pos rfl]
    obtain ⟨W2, hW2, hb2, hk2, hz2⟩ := next_after w A n c at_ 92 q (.int .i64 (at_ + k : Nat))
    rw [← hW2]
    have c0 := hk2.cell 0
    have c1 := hk2.cell 1
    have kg := H.out.blk.below hb2 hlt
    have g0 := kg.cell 0
    have g1 := kg.cell 1
    have gf0 := kg.frozen 0
    have gf1 := kg.frozen 1
    simp only [rcells, List.getElem?_toArray, List.getElem?_cons_zero, List.getElem?_cons_succ] at c0 c1 g0 g1
    clear hW2 hk2 kg
    have hfin := copied2 w W2 B g n c at_ (at_ + k) A l er H.out hb2 hpn
    push_cast at hfin
    have Hfin := Lib.hid hfin
    clear hfin
    go_wp2
    all_goals (go_ret2; exact ⟨rfl, Hfin.out⟩)

theorem pos_count_any (w : World) (B g n c at_ : Nat) (A : Option Addr) (l : List UInt8) (er m : Int) (h : Rdr w B g A n c l at_ er) (hm : m ≤ 9223372036854775807) :
    Calls Tryd.prog 63 #[.pointer (some ⟨g, 0, none⟩), .int .i64 m] w (PosPost w B g A n c l at_ (cnt m.toNat (l.drop at_)).2.1 er (.tuple #[.int .i64 ((cnt m.toNat (l.drop at_)).1 : Nat), .int .i64 ((cnt m.toNat (l.drop at_)).2.2 : Nat)])) := by
  unfold cnt
  by_cases h1 : (num (l.drop at_)).2.2 ≠ 0
  · rw [if_pos h1]
    exact pos_count_bad w B g n c at_ A l er m h h1
  · rw [if_neg h1]
    have h1' : (num (l.drop at_)).2.2 = 0 := by simpa using h1
    by_cases h2 : m.toNat < (num (l.drop at_)).1
    · rw [if_pos h2]
      exact pos_count_long w B g n c at_ A l er m h hm h1' h2
    · rw [if_neg h2]
      exact pos_count_ok w B g n c at_ A l er m h hm h1' (by omega)

/-! ### The methods of a reader -/
theorem Rdr.err3 {w w1 : World} {B g n c k : Nat} {A : Option Addr} {l : List UInt8} {er : Int} (h : Rdr w1 B g A n c l k er) (hg : w.grownBy w1 (some g)) (e2 : Int) :
    Rdr (w1.setCell ⟨g, 3, none⟩ (.int .i64 e2)) B g A n c l k e2 ∧ w.grownBy (w1.setCell ⟨g, 3, none⟩ (.int .i64 e2)) (some g) := by
  have k2 := h.blk.set 3 (.int .i64 e2)
  have g1 : w1.grownBy (w1.setCell ⟨g, 3, none⟩ (.int .i64 e2)) (some g) := ⟨rfl, rfl, rfl, by simp, fun i hi hne => Below.heap_setCell _ _ _ _ (fun e => hne (by rw [e]))⟩
  exact ⟨h.turn g1 k2 h.hat, hg.trans g1⟩
theorem NumPost.rdr {w : World} {B g n c at_ : Nat} {A : Option Addr} {l : List UInt8} {er : Int} (h : Rdr w B g A n c l at_ er) (e : Ending) (w' : World) (hp : NumPost w g at_ (num (l.drop at_)) e w') :
    PosPost w B g A n c l at_ (num (l.drop at_)).2.1 er (.tuple #[.int .u64 ((num (l.drop at_)).1 : Nat), .int .i64 ((num (l.drop at_)).2.2 : Nat)]) e w' := by
  obtain ⟨rfl, q, rfl⟩ := hp
  by_cases h0 : (num (l.drop at_)).2.2 = 0
  · rw [if_pos h0]
    have hkl := num_le (l.drop at_) h0
    rw [List.length_drop, h.own.len] at hkl
    have hd := h.drewN q
    have k2 := hd.blk.set 1 (.int .i64 (at_ + (num (l.drop at_)).2.1 : Nat))
    have g1 : w.grownBy ((w.drewN q).setCell ⟨g, 1, none⟩ (.int .i64 (at_ + (num (l.drop at_)).2.1 : Nat))) (some g) := ⟨rfl, rfl, rfl, by simp, fun i hi hne => Below.heap_setCell _ _ _ _ (fun e => hne (by rw [e]))⟩
    exact ⟨rfl, h.turn g1 k2 (by have := h.hat; omega), g1⟩
  · rw [if_neg h0, (num_err _ h0).2.1]
    exact ⟨rfl, h.of_below (below_drewN (Below.refl _ _) q)⟩
end Go.Proofs.YtlmfjalkgapcgaaDoor

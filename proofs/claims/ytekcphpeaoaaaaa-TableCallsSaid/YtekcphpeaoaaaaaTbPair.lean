/- Package table: a node's pair; the iterators' makers. -/
import Derived.Test.YtekcphpeaoaaaaaTbIter
import Derived.Deep.RegionHeld3
namespace Go.Proofs.Ytekcphpeaoaaaaa
open Go.RowKit
set_option linter.unusedVariables false

/-- A pair as the program has it. -/
structure Pr where
  k : Str
  v : Str
  g : Bool
def prC (p : Pr) : List Value := [.string (S p.k), .string (S p.v), .bool p.g]
def prV (p : Pr) : Value := .agg #[.string (S p.k), .string (S p.v), .bool p.g]

set_option maxRecDepth 100000 in
set_option maxHeartbeats 1000000 in
theorem pair_any (w : World) (b : Nat) (k x : Str) (n : Int) (pl pr : Value) (hb : BlkIs w b 66 (nodeC k x n pl pr)) (k1 : k.length ≤ 100000) (k2 : x.length ≤ 100000) :
    Calls Try.prog 48 #[ptrV b] w fun e w' => e = .returned (prV ⟨k, x, false⟩) ∧ Nx w w' := by
  have C1 := Lib.hid (fun W => clone_any W (S k) (by rw [S_size]; omega))
  have C2 := Lib.hid (fun W => clone_any W (S x) (by rw [S_size]; omega))
  have n1 := (Nx.refl w).alloc (.cells #[.string ⟨#[]⟩, .string ⟨#[]⟩, .bool false] 40)
  have nb := BlkIs.new w 40 #[.string ⟨#[]⟩, .string ⟨#[]⟩, .bool false]
  have HB := Lib.hid hb
  have N1 := Lib.hid n1
  have NB := Lib.hid nb
  obtain ⟨d0, d1, _, _, _, _⟩ := NodeAt.nx hb n1
  have e0 : (w.alloc (.cells #[.string ⟨#[]⟩, .string ⟨#[]⟩, .bool false] 40)).cell? ⟨w.heap.size, 0, none⟩ = some (.string ⟨#[]⟩) := by rw [nb.cell]; rfl
  have RB : Hid (∀ W, Nx (w.alloc (.cells #[.string ⟨#[]⟩, .string ⟨#[]⟩, .bool false] 40)) W → W.cell? ⟨w.heap.size, 0, none⟩ = some (.string ⟨#[]⟩) ∧ W.cell? ⟨w.heap.size, 1, none⟩ = some (.string ⟨#[]⟩) ∧ W.cell? ⟨w.heap.size, 2, none⟩ = some (.bool false) ∧
      W.frozen? ⟨w.heap.size, 0, none⟩ = false ∧ W.frozen? ⟨w.heap.size, 1, none⟩ = false ∧ W.frozen? ⟨w.heap.size, 2, none⟩ = false) := fun W h => by
    have b := nb.nx h
    exact ⟨by rw [b.cell]; rfl, by rw [b.cell]; rfl, by rw [b.cell]; rfl, b.frozen 0, b.frozen 1, b.frozen 2⟩
  have KS : Hid (∀ W u0 u1 u2, Nx (w.alloc (.cells #[.string ⟨#[]⟩, .string ⟨#[]⟩, .bool false] 40)) W → (((W.setCell ⟨w.heap.size, 0, none⟩ u0).setCell ⟨w.heap.size, 1, none⟩ u1).setCell ⟨w.heap.size, 2, none⟩ u2).cell? ⟨b, 0, none⟩ = some (.string (S k)) ∧
      (((W.setCell ⟨w.heap.size, 0, none⟩ u0).setCell ⟨w.heap.size, 1, none⟩ u1).setCell ⟨w.heap.size, 2, none⟩ u2).cell? ⟨b, 1, none⟩ = some (.string (S x))) := fun W u0 u1 u2 h => by
    have hlt := hb.lt
    have b3 := ((((hb.nx n1).nx h).chd (Chd.set _ w.heap.size 0 u0) (by omega)).chd (Chd.set _ w.heap.size 1 u1) (by omega)).chd (Chd.set _ w.heap.size 2 u2) (by omega)
    exact ⟨(node_at b3).c0, (node_at b3).c1⟩
  have FIN : Hid (∀ W, Nx (w.alloc (.cells #[.string ⟨#[]⟩, .string ⟨#[]⟩, .bool false] 40)) W → BlkIs (((W.setCell ⟨w.heap.size, 0, none⟩ (.string (S k))).setCell ⟨w.heap.size, 1, none⟩ (.string (S x))).setCell ⟨w.heap.size, 2, none⟩ (.bool false)) w.heap.size 40 #[.string (S k), .string (S x), .bool false] ∧
      Nx w (((W.setCell ⟨w.heap.size, 0, none⟩ (.string (S k))).setCell ⟨w.heap.size, 1, none⟩ (.string (S x))).setCell ⟨w.heap.size, 2, none⟩ (.bool false))) := fun W h =>
    ⟨(((nb.nx h).set 0 _).set 1 _).set 2 _, (((n1.trans h).set _ _ _ (Nat.le_refl _)).set _ _ _ (Nat.le_refl _)).set _ _ _ (Nat.le_refl _)⟩
  unfold ptrV
  clear hb n1 nb e0
  go_enter Try.func48, Try.ntmps48
  go_wp2_with fail
  go_region_held3 (fun W => W.cell? ⟨b, 0, none⟩ = some (.string (S k)) ∧ W.cell? ⟨b, 1, none⟩ = some (.string (S x)))
    (first | go_keep | exact KS.out _ _ _ _ (Nx.trans (Nx.drew (Nx.refl _)) (hn2.trans hn3)) | exact ⟨(NodeAt.nx HB.out (N1.out.trans (Nx.trans (Nx.drew (Nx.refl _)) (hn2.trans hn3)))).c0, (NodeAt.nx HB.out (N1.out.trans (Nx.trans (Nx.drew (Nx.refl _)) (hn2.trans hn3)))).c1⟩ | exact ⟨(NodeAt.nx HB.out (N1.out.trans (Nx.trans (Nx.drew (Nx.refl _)) hn2))).c0, (NodeAt.nx HB.out (N1.out.trans (Nx.trans (Nx.drew (Nx.refl _)) hn2))).c1⟩)
    ((first
      | (go_at_call_of 39 k; refine (C1.out _).mono ?_; rintro e w2 ⟨rfl, hn2⟩)
      | (go_at_call_of 39 x; refine (C2.out _).mono ?_; rintro e w3 ⟨rfl, hn3⟩; obtain ⟨q0, q1, q2, r0, r1, r2⟩ := RB.out _ (Nx.trans (Nx.drew (Nx.refl _)) (hn2.trans hn3)))))
  obtain ⟨b1, n2⟩ := FIN.out _ (Nx.trans (Nx.drew (Nx.refl _)) (hn2.trans hn3))
  have B1 := Lib.hid b1
  have N2 := Lib.hid n2
  clear hn2 hn3 q0 q1 q2 r0 r1 r2 b1 n2 d0 d1
  go_wp2_with fail
  refine bodyPost_ret (results_cell_row rfl _ _ w.heap.size 40 #[.string (S k), .string (S x), .bool false] (0, 0) _ rfl B1.out Try.underlying40 rfl (by kernel_rfl)) rfl ?_
  exact ⟨rfl, N2.out⟩

set_option maxRecDepth 100000 in
set_option maxHeartbeats 1000000 in
theorem gone_any (w : World) (b : Nat) (k x : Str) (n : Int) (pl pr : Value) (hb : BlkIs w b 66 (nodeC k x n pl pr)) (k1 : k.length ≤ 100000) :
    Calls Try.prog 52 #[ptrV b] w fun e w' => e = .returned (prV ⟨k, [], true⟩) ∧ Nx w w' := by
  have C1 := Lib.hid (fun W => clone_any W (S k) (by rw [S_size]; omega))
  have n1 := (Nx.refl w).alloc (.cells #[.string ⟨#[]⟩, .string ⟨#[]⟩, .bool false] 40)
  have nb := BlkIs.new w 40 #[.string ⟨#[]⟩, .string ⟨#[]⟩, .bool false]
  obtain ⟨d0, d1, _, _, _, _⟩ := NodeAt.nx hb n1
  have RB : Hid (∀ W, Nx (w.alloc (.cells #[.string ⟨#[]⟩, .string ⟨#[]⟩, .bool false] 40)) W → W.cell? ⟨w.heap.size, 0, none⟩ = some (.string ⟨#[]⟩) ∧ W.cell? ⟨w.heap.size, 1, none⟩ = some (.string ⟨#[]⟩) ∧ W.cell? ⟨w.heap.size, 2, none⟩ = some (.bool false) ∧
      W.frozen? ⟨w.heap.size, 0, none⟩ = false ∧ W.frozen? ⟨w.heap.size, 1, none⟩ = false ∧ W.frozen? ⟨w.heap.size, 2, none⟩ = false) := fun W h => by
    have b := nb.nx h
    exact ⟨by rw [b.cell]; rfl, by rw [b.cell]; rfl, by rw [b.cell]; rfl, b.frozen 0, b.frozen 1, b.frozen 2⟩
  have FIN : Hid (∀ W, Nx (w.alloc (.cells #[.string ⟨#[]⟩, .string ⟨#[]⟩, .bool false] 40)) W → BlkIs (((W.setCell ⟨w.heap.size, 0, none⟩ (.string (S k))).setCell ⟨w.heap.size, 1, none⟩ (.string ⟨#[]⟩)).setCell ⟨w.heap.size, 2, none⟩ (.bool true)) w.heap.size 40 #[.string (S k), .string (S []), .bool true] ∧
      Nx w (((W.setCell ⟨w.heap.size, 0, none⟩ (.string (S k))).setCell ⟨w.heap.size, 1, none⟩ (.string ⟨#[]⟩)).setCell ⟨w.heap.size, 2, none⟩ (.bool true))) := fun W h =>
    ⟨(((nb.nx h).set 0 _).set 1 _).set 2 _, (((n1.trans h).set _ _ _ (Nat.le_refl _)).set _ _ _ (Nat.le_refl _)).set _ _ _ (Nat.le_refl _)⟩
  unfold ptrV
  clear hb n1 nb
  go_enter Try.func52, Try.ntmps52
  go_wp2_with fail
  refine (C1.out _).mono ?_
  rintro e w2 ⟨rfl, hn2⟩
  obtain ⟨q0, q1, q2, r0, r1, r2⟩ := RB.out _ hn2
  obtain ⟨b1, n2⟩ := FIN.out _ hn2
  have B1 := Lib.hid b1
  have N2 := Lib.hid n2
  clear hn2 b1 n2 d0 d1
  go_wp2_with fail
  refine bodyPost_ret (results_cell_row rfl _ _ w.heap.size 40 #[.string (S k), .string (S []), .bool true] (0, 0) _ rfl B1.out Try.underlying40 rfl (by kernel_rfl)) rfl ?_
  exact ⟨rfl, N2.out⟩

end Go.Proofs.Ytekcphpeaoaaaaa

/- Package table: a tree is cut. -/
import Derived.Test.YtekcphpeaoaaaaaTbRank
import Derived.Deep.RegionHeld3
namespace Go.Proofs.Ytekcphpeaoaaaaa
open Go.RowKit
set_option linter.unusedVariables false

/-- Two results that lie in new memory. -/
def Ret2 (P : Value → Value → World → Prop) (e : Ending) (w' : World) : Prop := ∃ a b, e = .returned (.tuple #[a, b]) ∧ P a b w'
theorem cut_nd (key : Str) (l : T) (k v : Str) (r : T) : (T.nd l k v r).cut key = if lt k key then (T.nd l k v (r.cut key).1, (r.cut key).2) else ((l.cut key).1, T.nd (l.cut key).2 k v r) := rfl
theorem cut_size (key : Str) : ∀ t : T, (t.cut key).1.size + (t.cut key).2.size = t.size
  | .nil => rfl
  | .nd l k v r => by
    have il := cut_size key l
    have ir := cut_size key r
    rw [cut_nd]
    split
    · simp only [T.size]; omega
    · simp only [T.size]; omega
theorem NodeAt.nx {w w' : World} {b : Nat} {k x : Str} {n : Int} {pl pr : Value} (h : BlkIs w b 66 (nodeC k x n pl pr)) (hb : Nx w w') : NodeAt w' b k x n pl pr := node_at (h.nx hb)

set_option maxRecDepth 100000 in
theorem cut_any (key : Str) (t : T) : ∀ (w : World) (B : Nat) (v : Value), In w B v t → t.size ≤ 1000000000 →
    Calls Try.prog 49 #[v, .string (S key)] w (Ret2 fun a b w' => In0 w' a (t.cut key).1 ∧ In0 w' b (t.cut key).2 ∧ Nx w w') := by
  induction t with
  | nil =>
    intro w B v h _
    obtain rfl : v = .pointer none := h
    have FIN : Hid (In0 w (.pointer none) (T.nil.cut key).1 ∧ In0 w (.pointer none) (T.nil.cut key).2 ∧ Nx w w) := ⟨rfl, rfl, Nx.refl _⟩
    go_enter Try.func49, Try.ntmps49
    go_wp2_with fail
    go_ret2
    exact ⟨_, _, rfl, FIN.out⟩
  | nd l k x r il ir =>
    intro w B v h hs
    obtain ⟨b, pl, pr, rfl, hb, hk, hl, hr, k1, k2⟩ := h
    have c0 := (node_at hk).c0
    have c4 := (node_at hk).c4
    have c5 := (node_at hk).c5
    have hlt := S_lt k key
    obtain ⟨ul, rfl⟩ := hl.ptr
    obtain ⟨ur, rfl⟩ := hr.ptr
    have hs1 : l.size ≤ 1000000000 ∧ r.size ≤ 1000000000 := by simp only [T.size] at hs; omega
    have IL := Lib.hid (il w B _ hl hs1.1)
    have IR := Lib.hid (ir w B _ hr hs1.2)
    have HK := Lib.hid hk
    have HL := Lib.hid hl
    have HR := Lib.hid hr
    have HS := Lib.hid hs
    have cz := Lib.hid (cut_size key l)
    have cz2 := Lib.hid (cut_size key r)
    clear hk hl hr il ir hs hs1
    by_cases e : lt k key = true
    · have he : Hid ((T.nd l k x r).cut key = (T.nd l k x (r.cut key).1, (r.cut key).2)) := by rw [cut_nd, if_pos e]; rfl
      rw [e] at hlt
      clear e
      go_enter Try.func49, Try.ntmps49
      go_wp2_with fail
      refine IR.out.mono ?_
      rintro e w1 ⟨a1, b1, rfl, ha, hb1, hn⟩
      obtain ⟨ua, rfl⟩ := ha.ptr
      obtain ⟨ub, rfl⟩ := hb1.ptr
      have D := NodeAt.nx HK.out hn
      obtain ⟨d0, d1, d2, d3, d4, d5⟩ := D
      have WA := Lib.hid (fun (W : World) (hW : Nx w1 W) => with_any W k x (T.nd l k x r).size (.pointer ul) (.pointer ur) (.pointer ul) (.pointer ua) l (r.cut key).1 _ _ ((HL.out.nx hn).nx hW) (ha.nx hW) k1 k2 (by have := HS.out; have := cz2.out; simp only [T.size] at *; omega))
      have HA := Lib.hid ha
      have HB := Lib.hid hb1
      have HN := Lib.hid hn
      clear ha hb1 hn c0 c4 c5 IR IL
      unfold nodeC at WA
      go_wp2_with fail
      go_region_held3 (fun W => W.cell? ⟨b, 0, none⟩ = some (.string (S k)) ∧ W.cell? ⟨b, 1, none⟩ = some (.string (S x)) ∧ W.cell? ⟨b, 2, none⟩ = some (.int .u32 (rank k)) ∧ W.cell? ⟨b, 3, none⟩ = some (.int .i64 (T.nd l k x r).size) ∧ W.cell? ⟨b, 4, none⟩ = some (.pointer ul) ∧ W.cell? ⟨b, 5, none⟩ = some (.pointer ur))
        (first | go_keep | exact (fun h => ⟨h.c0, h.c1, h.c2, h.c3, h.c4, h.c5⟩) (NodeAt.nx HK.out (HN.out.trans (Nx.trans (Nx.drew (Nx.refl _)) hn2))))
        ((go_at_call 57; refine (WA.out _ (Nx.drew (Nx.refl _))).mono ?_; rintro e w2 ⟨v2, rfl, hv2, hn2⟩))
      obtain ⟨uv, rfl⟩ := hv2.ptr
      have FIN : Hid (In0 w2 (.pointer uv) ((T.nd l k x r).cut key).1 ∧ In0 w2 (.pointer ub) ((T.nd l k x r).cut key).2 ∧ Nx w w2) := by
        have n2 := Nx.trans (Nx.drew (Nx.refl _)) hn2
        rw [he.out]
        exact ⟨hv2, HB.out.nx n2, HN.out.trans n2⟩
      clear hv2 hn2
      go_wp2
      go_ret2
      exact ⟨_, _, rfl, FIN.out⟩
    · have he : Hid ((T.nd l k x r).cut key = ((l.cut key).1, T.nd (l.cut key).2 k x r)) := by rw [cut_nd, if_neg e]; rfl
      have e : lt k key = false := by simpa using e
      rw [e] at hlt
      clear e
      go_enter Try.func49, Try.ntmps49
      go_wp2_with fail
      refine IL.out.mono ?_
      rintro e w1 ⟨a1, b1, rfl, ha, hb1, hn⟩
      obtain ⟨ua, rfl⟩ := ha.ptr
      obtain ⟨ub, rfl⟩ := hb1.ptr
      have D := NodeAt.nx HK.out hn
      obtain ⟨d0, d1, d2, d3, d4, d5⟩ := D
      have WA := Lib.hid (fun (W : World) (hW : Nx w1 W) => with_any W k x (T.nd l k x r).size (.pointer ul) (.pointer ur) (.pointer ub) (.pointer ur) (l.cut key).2 r _ _ (hb1.nx hW) ((HR.out.nx hn).nx hW) k1 k2 (by have := HS.out; have := cz.out; simp only [T.size] at *; omega))
      have HA := Lib.hid ha
      have HB := Lib.hid hb1
      have HN := Lib.hid hn
      clear ha hb1 hn c0 c4 c5 IR IL
      unfold nodeC at WA
      go_wp2_with fail
      go_region_held3 (fun W => W.cell? ⟨b, 0, none⟩ = some (.string (S k)) ∧ W.cell? ⟨b, 1, none⟩ = some (.string (S x)) ∧ W.cell? ⟨b, 2, none⟩ = some (.int .u32 (rank k)) ∧ W.cell? ⟨b, 3, none⟩ = some (.int .i64 (T.nd l k x r).size) ∧ W.cell? ⟨b, 4, none⟩ = some (.pointer ul) ∧ W.cell? ⟨b, 5, none⟩ = some (.pointer ur))
        (first | go_keep | exact (fun h => ⟨h.c0, h.c1, h.c2, h.c3, h.c4, h.c5⟩) (NodeAt.nx HK.out (HN.out.trans (Nx.trans (Nx.drew (Nx.refl _)) hn2))))
        ((go_at_call 57; refine (WA.out _ (Nx.drew (Nx.refl _))).mono ?_; rintro e w2 ⟨v2, rfl, hv2, hn2⟩))
      obtain ⟨uv, rfl⟩ := hv2.ptr
      have FIN : Hid (In0 w2 (.pointer ua) ((T.nd l k x r).cut key).1 ∧ In0 w2 (.pointer uv) ((T.nd l k x r).cut key).2 ∧ Nx w w2) := by
        have n2 := Nx.trans (Nx.drew (Nx.refl _)) hn2
        rw [he.out]
        exact ⟨HA.out.nx n2, hv2, HN.out.trans n2⟩
      clear hv2 hn2
      go_wp2
      go_ret2
      exact ⟨_, _, rfl, FIN.out⟩
end Go.Proofs.Ytekcphpeaoaaaaa

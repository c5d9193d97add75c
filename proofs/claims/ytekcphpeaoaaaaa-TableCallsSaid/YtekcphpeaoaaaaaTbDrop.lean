/- Package table: a key is dropped. -/
import Derived.Test.YtekcphpeaoaaaaaTbJoin
namespace Go.Proofs.Ytekcphpeaoaaaaa
open Go.RowKit
set_option linter.unusedVariables false

/-- A search for the key comes to it. -/
def T.has (key : Str) : T → Bool
  | .nil => false
  | .nd l k v r => if lt key k then l.has key else if lt k key then r.has key else true
theorem has_nd (key : Str) (l : T) (k v : Str) (r : T) : (T.nd l k v r).has key = if lt key k then l.has key else if lt k key then r.has key else true := rfl
theorem drop_nd (key : Str) (l : T) (k v : Str) (r : T) : (T.nd l k v r).drop key = if lt key k then .nd (l.drop key) k v r else if lt k key then .nd l k v (r.drop key) else l.join r := rfl
theorem has_of_find (key : Str) : ∀ t : T, t.find key ≠ .nil → t.has key = true
  | .nil, h => absurd rfl h
  | .nd l k v r, h => by
    rw [has_nd]
    rw [find_nd] at h
    by_cases e : k = key
    · subst e
      rw [lt_irrefl]
      rfl
    · rw [if_neg e] at h
      by_cases c : lt key k = true
      · rw [if_pos c] at h ⊢
        exact has_of_find key l h
      · rw [if_neg c] at h ⊢
        rw [if_pos (gt_of (by simpa using c) (fun x => e x.symm))]
        exact has_of_find key r h
theorem drop_size (key : Str) : ∀ t : T, (t.drop key).size ≤ t.size
  | .nil => Nat.le_refl _
  | .nd l k v r => by
    have il := drop_size key l
    have ir := drop_size key r
    have ij := join_size l r
    rw [drop_nd]
    split
    · simp only [T.size]; omega
    · split
      · simp only [T.size]; omega
      · simp only [T.size]; omega

set_option maxRecDepth 100000 in
theorem drop_any (key : Str) (t : T) : ∀ (w : World) (B : Nat) (v : Value), In w B v t → t.size ≤ 1000000000 → t.has key = true →
    Calls Try.prog 43 #[v, .string (S key)] w (Ret fun v' w' => In0 w' v' (t.drop key) ∧ Nx w w') := by
  induction t with
  | nil =>
    intro w B v h _ hh
    cases hh
  | nd l k x r il ir =>
    intro w B v h hs hh
    obtain ⟨b, pl, pr, rfl, hb, hk, hl, hr, k1, k2⟩ := h
    have c0 := (node_at hk).c0
    have hlt := S_lt key k
    obtain ⟨ul, rfl⟩ := hl.ptr
    obtain ⟨ur, rfl⟩ := hr.ptr
    have hs1 : l.size ≤ 1000000000 ∧ r.size ≤ 1000000000 := by simp only [T.size] at hs; omega
    have IL := Lib.hid (fun (h : l.has key = true) (W : World) (hW : Nx w W) => il W _ _ (hl.nx hW) hs1.1 h)
    have IR := Lib.hid (fun (h : r.has key = true) (W : World) (hW : Nx w W) => ir W _ _ (hr.nx hW) hs1.2 h)
    have JA := Lib.hid (fun (W : World) (hW : Nx w W) => join_any _ l r W _ _ _ _ (Nat.le_refl _) (hl.nx hW) (hr.nx hW) (by simp only [T.size] at hs; omega))
    have HK := Lib.hid hk
    have HL := Lib.hid hl
    have HR := Lib.hid hr
    have HS := Lib.hid hs
    have zl := Lib.hid (drop_size key l)
    have zr := Lib.hid (drop_size key r)
    have N1 : Hid (Nx w w) := Nx.refl w
    rw [has_nd] at hh
    obtain ⟨d0, d1, d2, d3, d4, d5⟩ := node_at hk
    clear hk hl hr il ir hs hs1 c0
    by_cases e : lt key k = true
    · have he : Hid ((T.nd l k x r).drop key = .nd (l.drop key) k x r) := by rw [drop_nd, if_pos e]; rfl
      rw [if_pos e] at hh
      rw [e] at hlt
      have JL := Lib.hid (IL.out hh)
      have WA := Lib.hid (fun (W : World) (u : Option Addr) (hW : Nx w W) (hu : In0 W (.pointer u) (l.drop key)) => with_any W k x (T.nd l k x r).size (.pointer ul) (.pointer ur) (.pointer u) (.pointer ur) _ r _ _ hu (HR.out.nx hW) k1 k2 (by have := HS.out; have := zl.out; simp only [T.size] at *; omega))
      clear e hh IL IR JA
      unfold nodeC at WA
      go_enter Try.func43, Try.ntmps43
      go_wp2_with fail
      go_region_held3 (fun W => W.cell? ⟨b, 0, none⟩ = some (.string (S k)) ∧ W.cell? ⟨b, 1, none⟩ = some (.string (S x)) ∧ W.cell? ⟨b, 2, none⟩ = some (.int .u32 (rank k)) ∧ W.cell? ⟨b, 3, none⟩ = some (.int .i64 (T.nd l k x r).size) ∧ W.cell? ⟨b, 4, none⟩ = some (.pointer ul) ∧ W.cell? ⟨b, 5, none⟩ = some (.pointer ur))
        (first | go_keep | exact (fun h => ⟨h.c0, h.c1, h.c2, h.c3, h.c4, h.c5⟩) (NodeAt.nx HK.out (N1.out.trans (Nx.trans (Nx.drew (Nx.refl _)) (hn2.trans hn3)))) | exact (fun h => ⟨h.c0, h.c1, h.c2, h.c3, h.c4, h.c5⟩) (NodeAt.nx HK.out (N1.out.trans (Nx.trans (Nx.drew (Nx.refl _)) hn2))))
        ((first
          | (go_at_call 43; refine (JL.out _ (N1.out.trans (Nx.drew (Nx.refl _)))).mono ?_; rintro e w2 ⟨v2, rfl, hv2, hn2⟩; obtain ⟨u2, rfl⟩ := hv2.ptr)
          | (go_at_call 57; refine (WA.out _ _ (N1.out.trans (Nx.trans (Nx.drew (Nx.refl _)) hn2)) hv2).mono ?_; rintro e w3 ⟨v3, rfl, hv3, hn3⟩)))
      obtain ⟨uv, rfl⟩ := hv3.ptr
      have FIN : Hid (In0 w3 (.pointer uv) ((T.nd l k x r).drop key) ∧ Nx w w3) := by
        rw [he.out]
        exact ⟨hv3, N1.out.trans (Nx.trans (Nx.drew (Nx.refl _)) (hn2.trans hn3))⟩
      clear hv2 hn2 hv3 hn3
      go_wp2_with fail
      go_ret
      exact ⟨_, rfl, FIN.out⟩
    · rw [if_neg e] at hh
      by_cases e2 : lt k key = true
      · have he : Hid ((T.nd l k x r).drop key = .nd l k x (r.drop key)) := by rw [drop_nd, if_neg e, if_pos e2]; rfl
        rw [if_pos e2] at hh
        have e : lt key k = false := by simpa using e
        have heq : ((S key).toList == (S k).toList) = false := by rw [S_eq]; exact decide_eq_false (lt_ne e2).symm
        rw [e] at hlt
        have JR := Lib.hid (IR.out hh)
        have WA := Lib.hid (fun (W : World) (u : Option Addr) (hW : Nx w W) (hu : In0 W (.pointer u) (r.drop key)) => with_any W k x (T.nd l k x r).size (.pointer ul) (.pointer ur) (.pointer ul) (.pointer u) l _ _ _ (HL.out.nx hW) hu k1 k2 (by have := HS.out; have := zr.out; simp only [T.size] at *; omega))
        clear e e2 hh IL IR JA
        unfold nodeC at WA
        go_enter Try.func43, Try.ntmps43
        go_wp2_with fail
        go_region_held3 (fun W => W.cell? ⟨b, 0, none⟩ = some (.string (S k)) ∧ W.cell? ⟨b, 1, none⟩ = some (.string (S x)) ∧ W.cell? ⟨b, 2, none⟩ = some (.int .u32 (rank k)) ∧ W.cell? ⟨b, 3, none⟩ = some (.int .i64 (T.nd l k x r).size) ∧ W.cell? ⟨b, 4, none⟩ = some (.pointer ul) ∧ W.cell? ⟨b, 5, none⟩ = some (.pointer ur))
          (first | go_keep | exact (fun h => ⟨h.c0, h.c1, h.c2, h.c3, h.c4, h.c5⟩) (NodeAt.nx HK.out (N1.out.trans (Nx.trans (Nx.drew (Nx.refl _)) (hn2.trans hn3)))) | exact (fun h => ⟨h.c0, h.c1, h.c2, h.c3, h.c4, h.c5⟩) (NodeAt.nx HK.out (N1.out.trans (Nx.trans (Nx.drew (Nx.refl _)) hn2))))
          ((first
            | (go_at_call 43; refine (JR.out _ (N1.out.trans (Nx.drew (Nx.refl _)))).mono ?_; rintro e w2 ⟨v2, rfl, hv2, hn2⟩; obtain ⟨u2, rfl⟩ := hv2.ptr)
            | (go_at_call 57; refine (WA.out _ _ (N1.out.trans (Nx.trans (Nx.drew (Nx.refl _)) hn2)) hv2).mono ?_; rintro e w3 ⟨v3, rfl, hv3, hn3⟩)))
        obtain ⟨uv, rfl⟩ := hv3.ptr
        have FIN : Hid (In0 w3 (.pointer uv) ((T.nd l k x r).drop key) ∧ Nx w w3) := by
          rw [he.out]
          exact ⟨hv3, N1.out.trans (Nx.trans (Nx.drew (Nx.refl _)) (hn2.trans hn3))⟩
        clear hv2 hn2 hv3 hn3
        go_wp2_with fail
        go_ret
        exact ⟨_, rfl, FIN.out⟩
      · have he : Hid ((T.nd l k x r).drop key = l.join r) := by rw [drop_nd, if_neg e, if_neg e2]; rfl
        have e : lt key k = false := by simpa using e
        have e2 : lt k key = false := by simpa using e2
        have heq : ((S key).toList == (S k).toList) = true := by rw [S_eq]; exact decide_eq_true (lt_conn e e2)
        rw [e] at hlt
        clear e e2 hh IL IR
        go_enter Try.func43, Try.ntmps43
        go_wp2_with fail
        go_region_held3 (fun W => W.cell? ⟨b, 0, none⟩ = some (.string (S k)) ∧ W.cell? ⟨b, 1, none⟩ = some (.string (S x)) ∧ W.cell? ⟨b, 2, none⟩ = some (.int .u32 (rank k)) ∧ W.cell? ⟨b, 3, none⟩ = some (.int .i64 (T.nd l k x r).size) ∧ W.cell? ⟨b, 4, none⟩ = some (.pointer ul) ∧ W.cell? ⟨b, 5, none⟩ = some (.pointer ur))
          (first | go_keep | exact (fun h => ⟨h.c0, h.c1, h.c2, h.c3, h.c4, h.c5⟩) (NodeAt.nx HK.out (N1.out.trans (Nx.trans (Nx.drew (Nx.refl _)) hn3))))
          ((go_at_call 58; refine (JA.out _ (N1.out.trans (Nx.drew (Nx.refl _)))).mono ?_; rintro e w3 ⟨v3, rfl, hv3, hn3⟩))
        obtain ⟨uv, rfl⟩ := hv3.ptr
        have FIN : Hid (In0 w3 (.pointer uv) ((T.nd l k x r).drop key) ∧ Nx w w3) := by
          rw [he.out]
          exact ⟨hv3, N1.out.trans (Nx.trans (Nx.drew (Nx.refl _)) hn3)⟩
        clear hv3 hn3
        go_wp2_with fail
        go_ret
        exact ⟨_, rfl, FIN.out⟩
end Go.Proofs.Ytekcphpeaoaaaaa
